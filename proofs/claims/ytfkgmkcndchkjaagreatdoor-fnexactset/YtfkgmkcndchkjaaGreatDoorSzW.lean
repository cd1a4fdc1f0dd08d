/- Proves what the harness counts of ops, from whatever is left. -/
import Derived.Test.YtfkgmkcndchkjaaGreatDoorOpH
namespace Go.Proofs.YtfkgmkcndchkjaaGreatDoor.OpR
open Go.ChangeShapes Go.WideShapes Go.ChangeAt Go.RowKit
set_option linter.unusedVariables false

set_option maxRecDepth 100000 in
set_option maxHeartbeats 400000 in
theorem szOpS_left (L : Int) (l : List OpV) (ao : Option Addr) (cap : Nat) (w : World) (hL0 : 0 ≤ L) (hL1 : L ≤ 1048576) (hl : l.length ≤ maxLen) (hA : OpsAt w ao l) (hS : ∀ o ∈ l, o.name.size ≤ maxLen ∧ o.value.size ≤ maxLen) :
    Calls Tryz.prog 34 #[.slice ao l.length cap, .int .i64 L] w fun e w' => ∃ m : Int, e = .returned (.int .i64 m) ∧ m ≤ 1048576 ∧ (0 ≤ m → l.length ≤ 1048576 ∧ ∀ o ∈ l, o.name.size ≤ 1048576 ∧ o.value.size ≤ 1048576) ∧ Below w.heap.size w w' := by
  have hl' := hl
  unfold maxLen at hl
  have HA : Hid (OpsAt w ao l) := ⟨hA⟩
  have HS : Hid (∀ o ∈ l, o.name.size ≤ maxLen ∧ o.value.size ≤ maxLen) := ⟨hS⟩
  clear hA hS
  go_enter Tryz.func34, Tryz.ntmps34
  go_wp2
  · go_ret; exact ⟨-1, rfl, by omega, fun h => by omega, Below.refl _ _⟩
  go_loopw [1, 5] (fun m i wr => ∃ (k : Nat) (z : Int), k ≤ l.length ∧ i = .int .i64 k ∧ m = .int .i64 z ∧ 0 ≤ z ∧ z ≤ 1048576 ∧ (∀ j (hj : j < l.length), j < k → l[j].name.size ≤ 1048576 ∧ l[j].value.size ≤ 1048576) ∧ Below w.heap.size w wr) (fun _ i _ => l.length - (intOf i).toNat)
  case atStart => exact ⟨0, _, by omega, rfl, rfl, by omega, by omega, fun j hj h => by omega, Below.refl _ _⟩
  case round =>
    obtain ⟨k, z, hk, rfl, rfl, hz0, hz1, hall, hb⟩ := hrel
    have HL : Hid (∀ j (hj : j < l.length), j < k → l[j].name.size ≤ 1048576 ∧ l[j].value.size ≤ 1048576) := ⟨hall⟩
    clear hall
    by_cases h : k < l.length
    · obtain ⟨b, off, rfl, hlt, ho⟩ := HA.out k h
      have ho' := ho.block (w' := wr) (hb.block b hlt)
      obtain ⟨c0, c1, c2, c3, c4, c5, c6⟩ := ho'
      have hsz := HS.out _ (List.getElem_mem h)
      have hcall := szOp_any l[k] z wr hz0 hz1 hsz.1 hsz.2
      unfold OpV.agg at hcall
      have hi0 : (0 : Int) ≤ (k : Int) := by omega
      have hi1 : (k : Int) < (l.length : Int) := by omega
      clear ho hsz
      go_wp2_with (first | (go_at_call 29; refine hcall.mono ?_; rintro e w1 ⟨m, rfl, hm0, hm1, hm2, hb1⟩))
      · go_ret; exact ⟨-1, rfl, by omega, fun h => by omega, hb.trans (hb1.mono hb.size)⟩
      · go_roundw
        case rel =>
          refine ⟨k + 1, m, by omega, by go_num, rfl, by omega, by omega, fun j hj hjk => ?_, hb.trans (hb1.mono hb.size)⟩
          rcases Nat.lt_or_ge j k with h' | h'
          · exact HL.out j hj h'
          · obtain rfl : j = k := by omega
            have := hm2 (by omega)
            omega
        case measure => simp [intOf]; omega
    · go_wp2
      go_ret
      refine ⟨_, rfl, by omega, fun _ => ⟨by omega, fun o ho => ?_⟩, hb⟩
      obtain ⟨j, hj, rfl⟩ := List.getElem_of_mem ho
      exact HL.out j hj (by omega)
end Go.Proofs.YtfkgmkcndchkjaaGreatDoor.OpR
