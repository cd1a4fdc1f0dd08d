/- A client as a Lean value, what is asked of it, and how it lies in memory. -/
import Derived.Test.YtfkgmkcndchkjaaGreatDoorSortM
namespace Go.Proofs.YtfkgmkcndchkjaaGreatDoor.OpR
open Go.ChangeShapes Go.WideShapes Go.ChangeAt Go.RowKit
set_option linter.unusedVariables false

structure CliV where
  repl : Int
  clock : Int
  log : List OpV
  acked : Int
  out : List OpV
  got : Int
def CliV.zero : CliV := ⟨0, 0, [], 0, [], 0⟩
/-- What is told. -/
structure OutV where
  cl : CliV
  op : OpV
  many : Int
  code : Int
def OutV.ill (code : Int) : OutV := ⟨CliV.zero, OpV.zero, 0, code⟩
/-- Its own ops. -/
def ownB (l : List OpV) (r : Int) : List OpV := l.filter fun o => decide (o.repl = r)
def sameL : List OpV → List OpV → Bool
  | [], [] => true
  | a :: x, b :: y => sameOp a b && sameL x y
  | _, _ => false
theorem sameL_iff : ∀ (x y : List OpV), sameL x y = true ↔ x = y
  | [], [] => by simp [sameL]
  | [], b :: y => by simp [sameL]
  | a :: x, [] => by simp [sameL]
  | a :: x, b :: y => by
    show (sameOp a b && sameL x y) = true ↔ _
    rw [Bool.and_eq_true, same_iff, sameL_iff x y, List.cons.injEq]
def timesB (l : List OpV) (t : Int) : Bool := l.all fun o => decide (o.time ≤ t)
def lastB (own out : List OpV) (acked : Int) : Bool := decide (acked = (own.length : Int) - out.length) && (decide (0 ≤ acked) && sameL (own.drop acked.toNat) out)
def cliRight (c : CliV) : Bool := isIn c.repl 1 50 && (logRight c.log && (isIn c.clock 0 1000000 && (isIn c.got 0 1000000 && (decide (c.out.length ≤ 30) && (timesB c.log c.clock && lastB (ownB c.log c.repl) c.out c.acked)))))
/-- What a right client keeps to. -/
structure CliR (c : CliV) : Prop where
  repl : 1 ≤ c.repl ∧ c.repl ≤ 50
  log : LogR c.log
  clock : 0 ≤ c.clock ∧ c.clock ≤ 1000000
  got : 0 ≤ c.got ∧ c.got ≤ 1000000
  few : c.out.length ≤ 30
  times : ∀ o ∈ c.log, o.time ≤ c.clock
  acked : c.acked = ((ownB c.log c.repl).length : Int) - c.out.length
  low : 0 ≤ c.acked
  last : (ownB c.log c.repl).drop c.acked.toNat = c.out
theorem cliR_iff (c : CliV) : cliRight c = true ↔ CliR c := by
  unfold cliRight isIn timesB lastB
  simp only [Bool.and_eq_true, decide_eq_true_eq, log_iff, List.all_eq_true, sameL_iff]
  constructor
  · rintro ⟨h1, h2, h3, h4, h5, h6, h7, h8, h9⟩
    exact ⟨h1, h2, h3, h4, h5, h6, h7, h8, h9⟩
  · rintro ⟨h1, h2, h3, h4, h5, h6, h7, h8, h9⟩
    exact ⟨h1, h2, h3, h4, h5, h6, h7, h8, h9⟩
theorem cli_yes {c : CliV} (h : CliR c) : cliRight c = true := (cliR_iff c).2 h
theorem cli_no {c : CliV} (h : ¬ CliR c) : cliRight c = false := bool_no (cliR_iff c) h
theorem own_len (l : List OpV) (r : Int) : (ownB l r).length ≤ l.length := List.length_filter_le _ _
theorem own_mem {l : List OpV} {r : Int} {o : OpV} (h : o ∈ ownB l r) : o ∈ l := (List.mem_filter.1 h).1
theorem own_take {l : List OpV} {r : Int} {k : Nat} (h : k < l.length) : ownB (l.take (k + 1)) r = ownB (l.take k) r ++ (if l[k].repl = r then [l[k]] else []) := by
  unfold ownB
  rw [List.take_add_one, List.getElem?_eq_getElem h, List.filter_append]
  show _ ++ List.filter _ [l[k]] = _
  by_cases e : l[k].repl = r <;> simp [e]

/-- The last Time of a log. -/
def lastT (l : List OpV) : Int := match l.getLast? with
  | none => 0
  | some o => o.time
theorem strict_times {l : List OpV} (h : Strict l) : ∀ o ∈ l, o.time ≤ lastT l := by
  intro o ho
  obtain ⟨j, hj, rfl⟩ := List.getElem_of_mem ho
  have hl : 0 < l.length := by omega
  have e : l.getLast? = some l[l.length - 1] := by rw [List.getLast?_eq_getElem?, List.getElem?_eq_getElem (by omega)]
  unfold lastT
  rw [e]
  show l[j].time ≤ l[l.length - 1].time
  rcases Nat.lt_or_ge j (l.length - 1) with h1 | h1
  · have h2 := (ahead_iff _ _).1 (List.pairwise_iff_getElem.1 h j (l.length - 1) hj (by omega) h1)
    omega
  · have e : j = l.length - 1 := by omega
    subst e
    exact Int.le_refl _
theorem lastT_mem (l : List OpV) : l = [] ∨ ∃ o ∈ l, lastT l = o.time := by
  unfold lastT
  cases h : l.getLast? with
  | none => left; simpa using h
  | some o => exact .inr ⟨o, List.mem_of_getLast? h, rfl⟩
theorem times_last {l : List OpV} (h : LogR l) {t : Int} : (timesB l t && isIn t 0 1000000) = (decide (lastT l ≤ t) && decide (t ≤ 1000000)) := by
  have hS := rises_strict h.2.2
  have e : (timesB l t && isIn t 0 1000000) = true ↔ (decide (lastT l ≤ t) && decide (t ≤ 1000000)) = true := by
    unfold timesB isIn
    simp only [Bool.and_eq_true, decide_eq_true_eq, List.all_eq_true]
    constructor
    · rintro ⟨h1, h2, h3⟩
      refine ⟨?_, h3⟩
      rcases lastT_mem l with e | ⟨o, ho, e⟩
      · subst e; exact h2
      · rw [e]; exact h1 o ho
    · rintro ⟨h1, h2⟩
      refine ⟨fun o ho => Int.le_trans (strict_times hS o ho) h1, ?_, h2⟩
      rcases lastT_mem l with e | ⟨o, ho, e⟩
      · subst e; exact h1
      · obtain ⟨j, hj, rfl⟩ := List.getElem_of_mem ho
        have h3 := h.1 j hj
        unfold opRight isIn at h3
        simp only [Bool.and_eq_true, decide_eq_true_eq] at h3
        omega
  cases h1 : (timesB l t && isIn t 0 1000000) <;> cases h2 : (decide (lastT l ≤ t) && decide (t ≤ 1000000))
  · rfl
  · exact absurd (e.2 h2) (by rw [h1]; decide)
  · exact absurd (e.1 h1) (by rw [h2]; decide)
  · rfl
theorem own_strict {l : List OpV} (h : Strict l) (r : Int) : Strict (ownB l r) := List.Pairwise.filter _ h

/-- Its cells: where its two rows lie is besides. -/
def CliV.vals (c : CliV) (la : Option Addr) (lc : Nat) (oa : Option Addr) (oc : Nat) : List Value := [.int .i64 c.repl, .int .i64 c.clock, .slice la c.log.length lc, .int .i64 c.acked, .slice oa c.out.length oc, .int .i64 c.got]
def CliV.agg (c : CliV) (la : Option Addr) (lc : Nat) (oa : Option Addr) (oc : Nat) : Value := .agg #[.int .i64 c.repl, .int .i64 c.clock, .slice la c.log.length lc, .int .i64 c.acked, .slice oa c.out.length oc, .int .i64 c.got]
def OutV.agg (x : OutV) (la : Option Addr) (lc : Nat) (oa : Option Addr) (oc : Nat) : Value := .agg #[.int .i64 x.cl.repl, .int .i64 x.cl.clock, .slice la x.cl.log.length lc, .int .i64 x.cl.acked, .slice oa x.cl.out.length oc, .int .i64 x.cl.got, .int .i64 x.op.time, .int .i64 x.op.repl, .int .i64 x.op.kind, .int .i64 x.op.node, .int .i64 x.op.parent, .string x.op.name, .string x.op.value, .int .i64 x.many, .int .i64 x.code]
/-- A row that is looked at alone, below N. -/
structure OLies (N : Nat) (w : World) (ao : Option Addr) (l : List OpV) : Prop where
  at_ : OpsAt w ao l
  low : l ≠ [] → ∀ a, ao = some a → a.block < N
theorem OLies.of {w : World} {ao : Option Addr} {l : List OpV} (h : OpsAt w ao l) : OLies w.heap.size w ao l := ⟨h, fun hne a ha => by
  obtain ⟨b, off, e, hlt, _⟩ := h 0 (List.length_pos_iff.2 hne)
  rw [ha] at e; cases e; exact hlt⟩
theorem OLies.stays {N : Nat} {w w' : World} {ao : Option Addr} {l : List OpV} (h : OLies N w ao l) (hb : Below w.heap.size w w') : OLies N w' ao l := ⟨h.at_.stays hb, h.low⟩
theorem OLies.none_ (N : Nat) (w : World) : OLies N w none [] := ⟨fun j hj => absurd hj (by simp), fun h => absurd rfl h⟩
/-- Both rows of a client. -/
structure CLies (N : Nat) (w : World) (c : CliV) (la oa : Option Addr) : Prop where
  log : OLies N w la c.log
  out : OLies N w oa c.out
theorem CLies.stays {N : Nat} {w w' : World} {c : CliV} {la oa : Option Addr} (h : CLies N w c la oa) (hb : Below w.heap.size w w') : CLies N w' c la oa := ⟨h.log.stays hb, h.out.stays hb⟩
theorem CLies.zero (N : Nat) (w : World) : CLies N w CliV.zero none none := ⟨OLies.none_ N w, OLies.none_ N w⟩
/-- Sizes. -/
structure CSz (k : Nat) (c : CliV) : Prop where
  log : c.log.length ≤ k
  out : c.out.length ≤ k
  lsz : ∀ o ∈ c.log, o.name.size ≤ k ∧ o.value.size ≤ k
  osz : ∀ o ∈ c.out, o.name.size ≤ k ∧ o.value.size ≤ k
end Go.Proofs.YtfkgmkcndchkjaaGreatDoor.OpR
