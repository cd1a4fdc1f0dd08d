/- Proves the walk of the law FnExactOpsBytes, out of what impl's function answers. -/
import Derived.Test.YtbahpaihblelmadOpLaw
import Derived.Test.YtbahpaihblelmadBytesW
namespace Go.Proofs.Ytbahpaihblelmad.OpR
open Go.ChangeShapes Go.WideShapes Go.ChangeAt Go.RowKit
set_option linter.unusedVariables false

set_option maxRecDepth 100000 in
set_option maxHeartbeats 400000 in
theorem law_opsBytes (w : World) (ao : Option Addr) (cap : Nat) (l : List OpV) (hC : CameOps w ao l)
    (hI : ∀ (l : List OpV) (ao : Option Addr) (cap : Nat) (w : World), l.length ≤ 1048576 → l.length ≤ cap → OpsAt w ao l → (∀ o ∈ l, o.name.size ≤ 1048576 ∧ o.value.size ≤ 1048576) → Calls Try.prog 26 #[.slice ao l.length cap] w fun e w' => e = .returned (.string (opsBytes l)) ∧ Below w.heap.size w w') :
    Calls Try.prog 8 #[.slice ao l.length cap] w fun e w' => e = .returned (.bool true) ∧ Below w.heap.size w w' := by
  obtain ⟨hl, hA, hS, _⟩ := hC
  have hsz := szOpS_any l ao cap w hl hA hS
  have HA : Hid (OpsAt w ao l) := ⟨hA⟩
  have HS : Hid (Sized l) := ⟨hS⟩
  have HI : Hid (∀ (ao : Option Addr) (cap : Nat) (w : World), l.length ≤ 1048576 → l.length ≤ cap → OpsAt w ao l → (∀ o ∈ l, o.name.size ≤ 1048576 ∧ o.value.size ≤ 1048576) → Calls Try.prog 26 #[.slice ao l.length cap] w fun e w' => e = .returned (.string (opsBytes l)) ∧ Below w.heap.size w w') := ⟨hI l⟩
  have HLn : Hid (l.length ≤ maxLen) := ⟨hl⟩
  unfold maxLen at hl
  have m1 : Hid True := ⟨trivial⟩
  have m2 : Hid True := ⟨trivial⟩
  clear hI hA hS
  go_enter Try.func8, Try.ntmps8
  go_wp2_with (first | (go_at_call 20; refine hsz.mono ?_; rintro e w1 ⟨m, rfl, hm, hb1⟩; have Hm : Hid (0 ≤ m → l.length ≤ 1048576 ∧ ∀ o ∈ l, o.name.size ≤ 1048576 ∧ o.value.size ≤ 1048576) := ⟨hm⟩; clear hm hsz) | (go_at_call 22; clear m1; obtain ⟨hl2, hs2⟩ := Hm.out (by omega); have HS2 : Hid (∀ o ∈ l, o.name.size ≤ 1048576 ∧ o.value.size ≤ 1048576) := ⟨hs2⟩; clear hs2; refine (toOpS_any l ao cap w1 hl2 (HA.out.stays hb1)).mono ?_; rintro e w2 ⟨rfl, hx2, hb2⟩; have hB2 := hb1.trans (hb2.mono hb1.size); have h3 := sOpsBytes_any l (some ⟨w1.heap.size, 0, none⟩) l.length w2 HLn.out hx2.opsAt HS.out) | (go_at_call 25; refine h3.mono ?_; rintro e w3 ⟨rfl, hb3⟩; have hB3 := hB2.trans (hb3.mono hB2.size); clear h3) | (go_at_call 22; clear m2; refine (toOpS_any l ao cap w3 hl2 (HA.out.stays hB3)).mono ?_; rintro e w4 ⟨rfl, hx4, hb4⟩; have hB4 := hB3.trans (hb4.mono hB3.size); have h5 := HI.out (some ⟨w3.heap.size, 0, none⟩) l.length w4 hl2 (Nat.le_refl _) hx4.opsAt HS2.out) | (go_at_call 26; refine h5.mono ?_; rintro e w5 ⟨rfl, hb5⟩; have hB5 := hB4.trans (hb5.mono hB4.size); clear h5) | (go_at_call 22; refine (toOpS_any l ao cap w5 hl2 (HA.out.stays hB5)).mono ?_; rintro e w6 ⟨rfl, hx6, hb6⟩; have hB6 := hB5.trans (hb6.mono hB5.size); have h7 := eqOpS_same l (some ⟨w3.heap.size, 0, none⟩) (some ⟨w5.heap.size, 0, none⟩) l.length l.length w6 HLn.out ((hx4.stays hb5).stays hb6).opsAt hx6.opsAt) | (go_at_call 24; refine h7.mono ?_; rintro e w7 ⟨rfl, hb7⟩; have hB7 := hB6.trans (hb7.mono hB6.size); clear h7))
  all_goals (go_ret; first | exact ⟨rfl, hB7⟩ | exact ⟨rfl, hb1⟩)
end Go.Proofs.Ytbahpaihblelmad.OpR
