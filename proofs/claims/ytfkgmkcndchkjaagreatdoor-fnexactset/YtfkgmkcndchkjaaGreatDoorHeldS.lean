/- Proves what the harness' look at marks tells. -/
import Derived.Test.YtfkgmkcndchkjaaGreatDoorMarkS
namespace Go.Proofs.YtfkgmkcndchkjaaGreatDoor.OpR
open Go.ChangeShapes Go.WideShapes Go.ChangeAt Go.RowKit
set_option linter.unusedVariables false

set_option maxRecDepth 100000 in
set_option maxHeartbeats 400000 in
theorem heldOpS_any (n k0 cap : Nat) (ao : Option Addr) (w : World) (hn : n ≤ 1048576) (hk : 0 < k0) (hk2 : k0 ≤ 1099511627776 / 2) (hA : OpsAt w ao (marks k0 n)) :
    Calls Tryz.prog 83 #[.slice ao n cap, .int .i64 (k0 : Int)] w fun e w' => e = .returned (.int .i64 ((k0 + 7 * n : Nat) : Int)) ∧ Below w.heap.size w w' := by
  have HA : Hid (OpsAt w ao (marks k0 n)) := ⟨hA⟩
  clear hA
  go_enter Tryz.func83, Tryz.ntmps83
  go_wp2
  go_loopw [1, 5] (fun kv i wr => ∃ j : Nat, j ≤ n ∧ i = .int .i64 j ∧ kv = .int .i64 ((k0 + 7 * j : Nat) : Int) ∧ Below w.heap.size w wr) (fun _ i _ => n - (intOf i).toNat)
  case atStart => exact ⟨0, by omega, rfl, by go_num, Below.refl _ _⟩
  case round =>
    obtain ⟨j, hj, rfl, rfl, hb⟩ := hrel
    obtain ⟨K, hK⟩ : ∃ K, k0 + 7 * j = K := ⟨_, rfl⟩
    have HK : Hid (k0 + 7 * j = K) := ⟨hK⟩
    have hK2 : K ≤ 1099511627770 := by omega
    have hK0 : 0 < K := by omega
    rw [hK]
    clear hK
    by_cases h : j < n
    · have hi0 : (0 : Int) ≤ (j : Int) := by omega
      have hi1 : (j : Int) < (n : Int) := by omega
      obtain ⟨b, off, rfl, hlt, ho⟩ := HA.out j (by rw [marks_len]; exact h)
      rw [marks_get, HK.out] at ho
      obtain ⟨c0, c1, c2, c3, c4, c5, c6⟩ := ho.block (w' := wr) (hb.block b hlt)
      have HO : Hid (OpAt w b (off + j * 7) (mk K)) := ⟨ho⟩
      clear ho
      simp only [mk] at c0 c1 c2 c3 c4 c5 c6
      have hT5 : ∀ w, Calls Tryz.prog 82 #[.int .i64 ((K : Int) + 1 + 1 + 1 + 1 + 1)] w fun e w' => e = .returned (.string (mt (K + 5))) ∧ Below w.heap.size w w' := fun w => by
        rw [show (K : Int) + 1 + 1 + 1 + 1 + 1 = ((K + 5 : Nat) : Int) by omega]
        exact markText_any (K + 5) (by omega) (by omega) w
      have hT6 : ∀ w, Calls Tryz.prog 82 #[.int .i64 ((K : Int) + 1 + 1 + 1 + 1 + 1 + 1)] w fun e w' => e = .returned (.string (mt (K + 6))) ∧ Below w.heap.size w w' := fun w => by
        rw [show (K : Int) + 1 + 1 + 1 + 1 + 1 + 1 = ((K + 6 : Nat) : Int) by omega]
        exact markText_any (K + 6) (by omega) (by omega) w
      go_wp2
      go_region_with (go_at_call 82; refine (hT5 wr.drew).mono ?_; rintro e w1 ⟨rfl, hb1⟩; have hB1 := hb.drew.trans (hb1.mono hb.size); obtain ⟨_, _, _, _, _, d5, d6⟩ := HO.out.block (w' := w1) (hB1.block b hlt); simp only [mk] at d5 d6)
      all_goals (
        clear hT5 c0 c1 c2 c3 c4 c5 c6
        go_wp2
        go_region_with (go_at_call 82; refine (hT6 w1.drew).mono ?_; rintro e w2 ⟨rfl, hb2⟩; have hB2 := hB1.drew.trans (hb2.mono hB1.size); obtain ⟨_, _, _, _, _, e5, e6⟩ := HO.out.block (w' := w2) (hB2.block b hlt); simp only [mk] at e5 e6)
        all_goals (
          go_wp2
          go_roundw
          case rel =>
            refine ⟨j + 1, by omega, by go_num, ?_, hB2⟩
            have := HK.out
            refine congrArg (Value.int .i64) ?_
            omega
          case measure => simp [intOf]; omega))
    · obtain rfl : j = n := by omega
      go_wp2
      go_ret
      exact ⟨by rw [← HK.out]; rfl, hb⟩
end Go.Proofs.YtfkgmkcndchkjaaGreatDoor.OpR
