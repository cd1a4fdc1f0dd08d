/- What a client answers when it takes, and is told (plain). -/
import Derived.Test.YtfkgmkcndchkjaaGreatDoorCliA
import Derived.Test.YtfkgmkcndchkjaaGreatDoorSLog
namespace Go.Proofs.YtfkgmkcndchkjaaGreatDoor.OpR
open Go.ChangeShapes Go.WideShapes Go.ChangeAt Go.RowKit
set_option linter.unusedVariables false

/-- An op behind all others of a log. -/
theorem add_last {l : List OpV} {o : OpV} (h : ∀ x ∈ l, x.time < o.time) : addAll (l, 0) [o] = some (l ++ [o], 1) := by
  have hp : place l o = l.length := place_eq (Nat.le_refl _) (fun j hj _ => by
    have := h _ (List.getElem_mem hj)
    rw [ahead_iff]; exact .inl this) (fun hh => absurd hh (by omega))
  show (addOne (l, 0) o).bind (fun s => some s) = _
  rw [addOne_new (s := (l, 0)) hp (fun hh => absurd hh (by simp))]
  simp
theorem res_last {l : List OpV} {o : OpV} (h : ∀ x ∈ l, x.time < o.time) : addRes l [o] = if 150 ≤ l.length then ([], 0, 9) else (l ++ [o], 1, 0) := by
  by_cases hl : 150 ≤ l.length
  · rw [if_pos hl]; exact res_full (add_last h) (by simp; omega)
  · rw [if_neg hl]; exact res_some (add_last h) (by simp; omega)
theorem ops_one {o : OpV} (h : opRight o = true) : opsRight [o] = true := by
  refine ops_yes ⟨by simp, fun i hi => ?_, fun i k hi hk => ?_⟩
  · have : i = 0 := by simpa using hi
    subst this
    exact h
  · have : i = 0 := by simpa using hi
    omega
theorem ops_drop {l : List OpV} (h : opsRight l = true) (k : Nat) : opsRight (l.drop k) = true := by
  obtain ⟨h1, h2, h3⟩ := opsR_of h
  refine ops_yes ⟨by rw [List.length_drop]; omega, fun i hi => ?_, fun i j hi hj => ?_⟩
  · rw [List.getElem_drop]; exact h2 _ _
  · rw [List.getElem_drop, List.getElem_drop]; exact h3 _ _ (by rw [List.length_drop] at hi; omega) (by omega)
theorem log_right {l m : List OpV} (h1 : logRight l = true) (h2 : opsRight m = true) : logRes l m = addRes l m := by
  have a := (log_of h1).2.1
  have b := (opsR_of h2).1
  exact log_add (by omega) ⟨h1, h2⟩
theorem log_last {l : List OpV} {o : OpV} (h1 : logRight l = true) (h2 : opRight o = true) (h : ∀ x ∈ l, x.time < o.time) : logRes l [o] = if 150 ≤ l.length then ([], 0, 9) else (l ++ [o], 1, 0) := by
  rw [log_right h1 (ops_one h2), res_last h]

/-- The clock, no less than each Time. -/
def maxT (t : Int) (l : List OpV) : Int := l.foldl (fun t o => max t o.time) t
theorem maxT_take {t : Int} {l : List OpV} {k : Nat} (h : k < l.length) : maxT t (l.take (k + 1)) = max (maxT t (l.take k)) l[k].time := by
  unfold maxT
  rw [List.take_add_one, List.getElem?_eq_getElem h, List.foldl_append]
  rfl
theorem maxT_ge (l : List OpV) : ∀ t, t ≤ maxT t l ∧ ∀ o ∈ l, o.time ≤ maxT t l := by
  induction l with
  | nil => exact fun t => ⟨Int.le_refl _, fun o ho => absurd ho (by simp)⟩
  | cons x r ih =>
    intro t
    obtain ⟨h1, h2⟩ := ih (max t x.time)
    refine ⟨Int.le_trans (Int.le_max_left _ _) h1, fun o ho => ?_⟩
    rcases List.mem_cons.1 ho with rfl | ho
    · exact Int.le_trans (Int.le_max_right _ _) h1
    · exact h2 o ho
theorem maxT_le (l : List OpV) : ∀ t b, t ≤ b → (∀ o ∈ l, o.time ≤ b) → maxT t l ≤ b := by
  induction l with
  | nil => exact fun t b h _ => h
  | cons x r ih =>
    intro t b h1 h2
    exact ih (max t x.time) b (Int.max_le.2 ⟨h1, h2 x (by simp)⟩) (fun o ho => h2 o (by simp [ho]))
theorem clock_max {l m k : List OpV} {many t : Int} (hl : Strict l) (ht : ∀ o ∈ l, o.time ≤ t) (h0 : 0 ≤ t) (h : addAll (l, 0) m = some (k, many)) : max t (lastT k) = maxT t m := by
  obtain ⟨h1, _⟩ := addAll_spec m (l, 0) hl
  obtain ⟨hS, hM, _⟩ := h1 _ h
  obtain ⟨g1, g2⟩ := maxT_ge m t
  have a : lastT k ≤ maxT t m := by
    rcases lastT_mem k with e | ⟨o, ho, e⟩
    · rw [e]; exact Int.le_trans h0 g1
    · rw [e]
      rcases List.mem_append.1 ((hM o).1 ho) with h2 | h2
      · exact Int.le_trans (ht o h2) g1
      · exact g2 o h2
  have b : maxT t m ≤ max t (lastT k) := maxT_le m t _ (Int.le_max_left _ _) fun o ho => Int.le_trans (strict_times hS o ((hM o).2 (List.mem_append.2 (.inr ho)))) (Int.le_max_right _ _)
  exact Int.le_antisymm (Int.max_le.2 ⟨g1, a⟩) b
/-- Whether all ops of its own are in a log. -/
def knownB (l : List OpV) (r : Int) (m : List OpV) : Bool := m.all fun o => !decide (o.repl = r) || l.any (fun x => sameOp x o)
def newOps (got fr : Int) (l : List OpV) : List OpV := l.drop (min (l.length : Int) (got - fr)).toNat
def takeRes (c : CliV) (fr : Int) (l : List OpV) : OutV :=
  if 400 < l.length then OutV.ill 2
  else if (cliRight c && (opsRight l && decide (0 ≤ fr))) = false then OutV.ill 1
  else if c.got < fr ∨ 1000000 < fr + l.length then OutV.ill 8
  else if knownB c.log c.repl (newOps c.got fr l) = false then OutV.ill 6
  else if (addRes c.log (newOps c.got fr l)).2.2 ≠ 0 then OutV.ill (addRes c.log (newOps c.got fr l)).2.2
  else ⟨⟨c.repl, maxT c.clock (newOps c.got fr l), (addRes c.log (newOps c.got fr l)).1, c.acked, c.out, max c.got (fr + l.length)⟩, OpV.zero, (addRes c.log (newOps c.got fr l)).2.1, 0⟩
def ackRes (c : CliV) (many : Int) : OutV :=
  if cliRight c = false then OutV.ill 1
  else if many < c.acked ∨ c.acked + c.out.length < many then OutV.ill 8
  else ⟨⟨c.repl, c.clock, c.log, many, c.out.drop (many - c.acked).toNat, c.got⟩, OpV.zero, 0, 0⟩

end Go.Proofs.YtfkgmkcndchkjaaGreatDoor.OpR
