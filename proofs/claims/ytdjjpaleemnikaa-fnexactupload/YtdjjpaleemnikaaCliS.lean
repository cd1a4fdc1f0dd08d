/- Proves what spec's own ops of a log, and spec.ClientRight, are. -/
import Derived.Test.YtdjjpaleemnikaaCliA
import Derived.Test.YtdjjpaleemnikaaRowO
import Derived.Test.YtdjjpaleemnikaaNeqOp
import Derived.Test.YtdjjpaleemnikaaOpY
import Derived.Deep.QuietTactic
import Derived.BigQuiet
namespace Go.Proofs.Ytdjjpaleemnikaa.OpR
open Go.ChangeShapes Go.WideShapes Go.ChangeAt Go.RowKit
set_option linter.unusedVariables false

/-- A new row of one op. -/
theorem one_ops (w : World) (o : OpV) (T : TypeId) : OpsAt (w.alloc (.cells #[.int .i64 o.time, .int .i64 o.repl, .int .i64 o.kind, .int .i64 o.node, .int .i64 o.parent, .string o.name, .string o.value] T)) (some ⟨w.heap.size, 0, none⟩) [o] := by
  have h : OpsIn (w.alloc (.cells #[.int .i64 o.time, .int .i64 o.repl, .int .i64 o.kind, .int .i64 o.node, .int .i64 o.parent, .string o.name, .string o.value] T)) w.heap.size T [o] := heap_alloc_new w _
  exact h.opsAt
set_option maxRecDepth 100000 in
set_option maxHeartbeats 1000000 in
theorem sOwn_any (l : List OpV) (ao : Option Addr) (cap : Nat) (r : Int) (w : World) (hl : l.length ≤ 150) (hA : OpsAt w ao l) :
    Calls Try.prog 31 #[.slice ao l.length cap, .int .i64 r] w fun e w' => ∃ v, e = .returned v ∧ OwnAt w' w.heap.size 59 v (ownB l r) ∧ Below w.heap.size w w' := by
  have HA := hide hA
  obtain ⟨i0, hi, hzz⟩ := Option.map_eq_some_iff.1 infoOp
  simp only [Prod.mk.injEq] at hzz
  obtain ⟨hz0, hz1, hz2⟩ := hzz
  have HO0 : Hid (OwnAt (w.alloc (.cells #[] 59)) w.heap.size 59 (.slice (some ⟨w.heap.size, 0, none⟩) 0 0) []) := ⟨empty_row w, by simp⟩
  clear hA
  go_enter Try.func31, Try.ntmps31
  go_wp2
  go_loopw [5, 6] (fun vo i wr => ∃ k : Nat, k ≤ l.length ∧ i = .int .i64 k ∧ OwnAt wr w.heap.size 59 vo (ownB (l.take k) r) ∧ Below w.heap.size w wr) (fun _ i _ => l.length - (intOf i).toNat)
  case atStart => exact ⟨0, by omega, rfl, HO0.out, (Below.refl _ _).alloc (Nat.le_refl _) _⟩
  case round =>
    obtain ⟨k, hk, rfl, hO, hb⟩ := hrel
    obtain ⟨m, hm⟩ : ∃ m, m = ownB (l.take k) r := ⟨_, rfl⟩
    rw [← hm] at hO
    have HM := hide hm
    have HO := hide hO
    have hown1 : m.length ≤ k := by rw [hm]; have := own_len (l.take k) r; rw [List.length_take] at this; omega
    clear hm
    obtain ⟨g, cap1, rfl, hg1, hg2, hcap, hcm, hat⟩ := HO.out.at
    clear hO hat
    by_cases h : k < l.length
    · obtain ⟨b, off, rfl, hlt, ho⟩ := HA.out k h
      obtain ⟨c0, c1, c2, c3, c4, c5, c6⟩ := ho.block (w' := wr) (hb.block b hlt)
      have hi0 : (0 : Int) ≤ (k : Int) := by omega
      have hi1 : (k : Int) < (l.length : Int) := by omega
      have HX := hide ho
      clear ho
      by_cases hr : l[k].repl = r
      · have hr' : (l[k].repl == r) = true := by simp [hr]
        have HR := hide hr
        clear hr
        have hXs := hb.size
        have HN := hide (one_ops wr l[k] 59)
        go_wp2_with (at_builtin; refine wpList_append_ops rfl _ _ rfl w.heap.size _ m rfl (HO.out.1.alloc _) (some ⟨wr.heap.size, 0, none⟩) [l[k]] 1 rfl HN.out (by simp; omega) (by simp; omega) ?_)
        intro v1 w1 hown1' hgr1 hne1
        have hYY : Below w.heap.size w w1 := (hb.alloc hXs _).grown hgr1 (by simp; omega) (fun j hj => by simp [Value.ownBlock] at hj; omega)
        have HO2 : Hid (OwnAt w1 w.heap.size 59 v1 (ownB (l.take (k + 1)) r)) := ⟨by
          have e0 : ownB (l.take (k + 1)) r = m ++ [l[k]] := by rw [own_take h, if_pos HR.out, ← HM.out]
          rw [e0, List.length_append]; exact hown1', hne1⟩
        clear hown1' hgr1 hne1
        go_wp2
        go_roundw
        case rel => exact ⟨k + 1, by omega, by go_num, HO2.out, hYY⟩
        case measure => simp [intOf]; omega
      · have hr' : (l[k].repl == r) = false := by simp [hr]
        go_wp2
        go_roundw
        case rel => exact ⟨k + 1, by omega, by go_num, by rw [own_take h, if_neg hr, List.append_nil, ← HM.out]; exact HO.out, hb⟩
        case measure => simp [intOf]; omega
    · obtain rfl : k = l.length := by omega
      go_wp2
      go_ret
      have e := HM.out
      rw [List.take_length] at e
      exact ⟨_, rfl, by rw [← e]; exact HO.out, hb⟩
set_option maxHeartbeats 400000 in
theorem sRepl_any (n : Int) (w : World) : Calls Try.prog 28 #[.int .i64 n] w fun e w' => e = .returned (.bool (isIn n 1 50)) ∧ w = w' := by
  go_enter Try.func28, Try.ntmps28
  go_wp2_with (first | (go_at_call 49; refine (is_any _ _ _ _).mono ?_; rintro e w1 ⟨rfl, rfl⟩))
  go_ret
  exact ⟨rfl, rfl⟩
/-- A client in a variable. -/
def CliBox (w c : World) (g : Nat) (T : TypeId) (x : CliV) (la : Option Addr) (lc : Nat) (oa : Option Addr) (oc : Nat) : Prop :=
  c.heap[g]? = some (.cells #[.int .i64 x.repl, .int .i64 x.clock, .slice la x.log.length lc, .int .i64 x.acked, .slice oa x.out.length oc, .int .i64 x.got] T (0, 0)) ∧ Below w.heap.size w c
theorem CliBox.cells {w c : World} {g : Nat} {T : TypeId} {x : CliV} {la : Option Addr} {lc : Nat} {oa : Option Addr} {oc : Nat} (h : CliBox w c g T x la lc oa oc) :
    c.cell? ⟨g, 0, none⟩ = some (.int .i64 x.repl) ∧ c.cell? ⟨g, 1, none⟩ = some (.int .i64 x.clock) ∧ c.cell? ⟨g, 2, none⟩ = some (.slice la x.log.length lc) ∧ c.cell? ⟨g, 3, none⟩ = some (.int .i64 x.acked) ∧ c.cell? ⟨g, 4, none⟩ = some (.slice oa x.out.length oc) ∧ c.cell? ⟨g, 5, none⟩ = some (.int .i64 x.got) := by
  have e := h.1
  refine ⟨?_, ?_, ?_, ?_, ?_, ?_⟩ <;> simp [World.cell?, e]
theorem CliBox.step {w c c' : World} {g : Nat} {T : TypeId} {x : CliV} {la : Option Addr} {lc : Nat} {oa : Option Addr} {oc : Nat} (h : CliBox w c g T x la lc oa oc) (hb : Below c.heap.size c c') : CliBox w c' g T x la lc oa oc :=
  ⟨(hb.block g (Array.getElem?_eq_some_iff.1 h.1).1).trans h.1, h.2.trans (hb.mono h.2.size)⟩
theorem drewN_below (w : World) (n : Nat) : Below w.heap.size w (w.drewN n) := ⟨rfl, rfl, rfl, Nat.le_refl _, fun _ _ => rfl⟩
theorem CliBox.drewN {w c : World} {g : Nat} {T : TypeId} {x : CliV} {la : Option Addr} {lc : Nat} {oa : Option Addr} {oc : Nat} (h : CliBox w c g T x la lc oa oc) (n : Nat) : CliBox w (c.drewN n) g T x la lc oa oc := h.step (drewN_below c n)
theorem CliBox.new (w : World) (T : TypeId) (x : CliV) (la : Option Addr) (lc : Nat) (oa : Option Addr) (oc : Nat) : CliBox w (w.alloc (.cells #[.int .i64 x.repl, .int .i64 x.clock, .slice la x.log.length lc, .int .i64 x.acked, .slice oa x.out.length oc, .int .i64 x.got] T)) w.heap.size T x la lc oa oc :=
  ⟨heap_alloc_new w _, (Below.refl _ _).alloc (Nat.le_refl _) _⟩
end Go.Proofs.Ytdjjpaleemnikaa.OpR
