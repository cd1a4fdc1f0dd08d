/- Proves what the deeds of one replica in impl's log are. -/
import Derived.Test.YtdjjpaleemnikaaCliS
import Derived.Test.YtdjjpaleemnikaaIOps
namespace Go.Proofs.Ytdjjpaleemnikaa.OpR
open Go.ChangeShapes Go.WideShapes Go.ChangeAt Go.RowKit
set_option linter.unusedVariables false

set_option maxRecDepth 100000 in
set_option maxHeartbeats 1000000 in
theorem by_any (l : List OpV) (ao : Option Addr) (cap : Nat) (r : Int) (w : World) (hl : l.length ≤ 150) (hA : OpsAt w ao l) :
    Calls Try.prog 61 #[.slice ao l.length cap, .int .i64 r] w fun e w' => ∃ v, e = .returned v ∧ w'.ownsRow w.heap.size 59 7 v (ownB l r).length (flat (ownB l r)) ∧ Below w.heap.size w w' := by
  have HA := hide hA
  clear hA
  go_enter Try.func61, Try.ntmps61
  go_wp2
  go_loopw [5, 10] (fun vo i wr => ∃ k : Nat, k ≤ l.length ∧ i = .int .i64 k ∧ wr.ownsRow w.heap.size 59 7 vo (ownB (l.take k) r).length (flat (ownB (l.take k) r)) ∧ Below w.heap.size w wr) (fun _ i _ => l.length - (intOf i).toNat)
  case atStart => exact ⟨0, by omega, rfl, ⟨by simp [flat, ownB], .inl ⟨rfl, by simp [ownB]⟩⟩, Below.refl _ _⟩
  case round =>
    obtain ⟨k, hk, rfl, hO, hb⟩ := hrel
    obtain ⟨m, hm⟩ : ∃ m, m = ownB (l.take k) r := ⟨_, rfl⟩
    rw [← hm] at hO
    have HM := hide hm
    have HO := hide hO
    have hown1 : m.length ≤ k := by rw [hm]; have := own_len (l.take k) r; rw [List.length_take] at this; omega
    clear hm hO
    by_cases h : k < l.length
    · obtain ⟨b, off, rfl, hlt, ho⟩ := HA.out k h
      obtain ⟨c0, c1, c2, c3, c4, c5, c6⟩ := ho.block (w' := wr) (hb.block b hlt)
      have hi0 : (0 : Int) ≤ (k : Int) := by omega
      have hi1 : (k : Int) < (l.length : Int) := by omega
      clear ho
      by_cases hr : l[k].repl = r
      · have hr' : (l[k].repl == r) = true := by simp [hr]
        have HR := hide hr
        clear hr
        have hXs := hb.size
        have hN0 := one_ops (wr.alloc (.cells #[.int .i64 l[k].time, .int .i64 l[k].repl, .int .i64 l[k].kind, .int .i64 l[k].node, .int .i64 l[k].parent, .string l[k].name, .string l[k].value] 59)) l[k] 59
        rw [show (wr.alloc (.cells #[.int .i64 l[k].time, .int .i64 l[k].repl, .int .i64 l[k].kind, .int .i64 l[k].node, .int .i64 l[k].parent, .string l[k].name, .string l[k].value] 59)).heap.size = wr.heap.size + 1 by simp] at hN0
        have HN := hide hN0
        clear hN0
        go_wp2_with (at_builtin; refine wpList_append_ops rfl _ _ rfl w.heap.size _ m rfl ((HO.out.alloc _).alloc _) (some ⟨wr.heap.size + 1, 0, none⟩) [l[k]] 1 rfl HN.out (by simp; omega) (by simp; omega) ?_)
        intro v1 w1 hown1' hgr1 hne1
        have hYY : Below w.heap.size w w1 := ((hb.alloc hXs (.cells #[.int .i64 l[k].time, .int .i64 l[k].repl, .int .i64 l[k].kind, .int .i64 l[k].node, .int .i64 l[k].parent, .string l[k].name, .string l[k].value] 59)).alloc (by simp; omega) _).grown hgr1 (by simp; omega) (fun j hj => (HO.out.lt j hj).1)
        have HO2 : Hid (w1.ownsRow w.heap.size 59 7 v1 (ownB (l.take (k + 1)) r).length (flat (ownB (l.take (k + 1)) r))) := ⟨by
          have e0 : ownB (l.take (k + 1)) r = m ++ [l[k]] := by rw [own_take h, if_pos HR.out, ← HM.out]
          rw [e0, List.length_append]; exact hown1'⟩
        clear hown1' hgr1 hne1
        go_wp2
        go_roundw
        case rel => exact ⟨k + 1, by omega, by go_num, HO2.out, hYY⟩
        case measure => simp [intOf]; omega
      · have hr' : (l[k].repl == r) = false := by simp [hr]
        go_wp2
        go_roundw
        case rel => exact ⟨k + 1, by omega, by go_num, by rw [own_take h, if_neg hr, List.append_nil, ← HM.out]; exact HO.out.alloc _, hb.alloc hb.size _⟩
        case measure => simp [intOf]; omega
    · obtain rfl : k = l.length := by omega
      go_wp2
      go_ret
      have e := HM.out
      rw [List.take_length] at e
      exact ⟨_, rfl, by rw [← e]; exact HO.out, hb⟩
end Go.Proofs.Ytdjjpaleemnikaa.OpR
