/- Proves that at every text impl.Unseal answers as spec.Unseal does, field by field (the law FnExactUnseal returns true, and the text reads as it did); no condition. -/
import Derived.Test.YthmofcckjakhkadUnsealW
namespace Go.Proofs.Ythmofcckjakhkad.NumR
open Go.ChangeShapes Go.WideShapes Go.ChangeAt Go.RowKit Go.ChangeMaps
set_option linter.unusedVariables false

set_option maxRecDepth 100000 in
set_option maxHeartbeats 400000 in
theorem eqText_same (t : ByteArray) (a c : Int) (w : World) :
    Calls Try.prog 12 #[txt t a c, txt t a c] w fun e w' => e = .returned (.bool true) ∧ Below w.heap.size w w' := by
  unfold txt
  go_enter Try.func12, Try.ntmps12
  go_wp2
  go_ret
  exact ⟨rfl, ((Below.refl _ _).alloc (Nat.le_refl _) _).alloc (by simp) _⟩

/-- One and the same answer of both gives true. -/
theorem law_of (t : ByteArray) (a c : Int) (s : ByteArray) (w : World) (h1 : ¬ 1048576 < s.size)
    (hS : ∀ w, Calls Try.prog 10 #[.string s] w fun e w' => e = .returned (txt t a c) ∧ Below w.heap.size w w')
    (hI : ∀ w, Calls Try.prog 11 #[.string s] w fun e w' => e = .returned (txt t a c) ∧ Below w.heap.size w w') :
    Calls Try.prog 5 #[.string s] w fun e w' => e = .returned (.bool true) ∧ Below w.heap.size w w' := by
  have hE := eqText_same t a c
  unfold txt at hS hI hE
  go_enter Try.func5, Try.ntmps5
  go_wp2_with (first | (go_at_call 10; refine (hS _).mono ?_; rintro e w1 ⟨rfl, hb1⟩) | (go_at_call 11; refine (hI _).mono ?_; rintro e w2 ⟨rfl, hb2⟩; obtain ⟨c0, c1, c2, f0, f1, f2, hlt⟩ := kept3 hb2 (g := w1.heap.size) (heap_alloc_new w1 _) (by simp)) | (go_at_call 12; refine (hE _).mono ?_; rintro e w3 ⟨rfl, hb3⟩))
  go_ret
  have k12 : Below w1.heap.size w1 w2 := ((Below.refl _ _).alloc (Nat.le_refl _) _).trans (hb2.mono (by simp))
  have k23 : Below w2.heap.size w2 w3 := ((Below.refl _ _).alloc (Nat.le_refl _) _).trans (hb3.mono (by simp))
  exact ⟨rfl, (hb1.trans (k12.mono hb1.size)).trans (k23.mono (Nat.le_trans hb1.size k12.size))⟩

set_option maxHeartbeats 400000 in
theorem law_unseal (s : ByteArray) (w : World) (hs : s.size ≤ maxLen) :
    Calls Try.prog 5 #[.string s] w fun e w' => e = .returned (.bool true) ∧ Below w.heap.size w w' := by
  have hs' := hs
  unfold maxLen at hs
  by_cases h1 : 1048576 < s.size
  · go_enter Try.func5, Try.ntmps5
    go_wp2
    go_ret
    exact ⟨rfl, Below.refl _ _⟩
  by_cases h2 : 8000 < s.size
  · exact law_of _ _ _ s w h1 (fun w => sUn_size s w hs' h2) (fun w => iUn_size s w hs' h2)
  by_cases h3 : s.size < 4
  · exact law_of _ _ _ s w h1 (fun w => sUn_short s w h3) (fun w => iUn_short s w h3)
  by_cases h4 : sumB (inner s) = tail4 s
  · exact law_of _ _ _ s w h1 (fun w => sUn_yes s w (by omega) (by omega) h4) (fun w => iUn_yes s w (by omega) (by omega) h4)
  · exact law_of _ _ _ s w h1 (fun w => sUn_no s w (by omega) (by omega) h4) (fun w => iUn_no s w (by omega) (by omega) h4)
end Go.Proofs.Ythmofcckjakhkad.NumR

namespace Go.Proofs.Ythmofcckjakhkad
open Go.ChangeShapes Go.WideShapes Go.ChangeAt Go.RowKit Go.ChangeMaps
set_option maxRecDepth 100000 in
theorem fnExactUnseal_lifted (os : Os) (started : os.Started) (H : Type) (enc : TypeId × Value → H) :
    ReturnsInHanded {} Try.checked os 5 .any (Rows.fnExactUnsealSpec.pre6 enc Try.prog Try.f5 Rows.fnExactUnsealRow.domain false) (Rows.fnExactUnsealSpec.post enc Try.prog Try.f5 false true false false) := by
  refine returnsInHanded_of_change (C := Try.checked) (by kernel_rfl) started (by kernel_rfl) Try.func5
    (ChangeSpec.witness6 (enc := enc) (C := Try.checked) false ⟨#[], #[.string ByteArray.empty], []⟩ 8 (by kernel_rfl) (by kernel_rfl) (by kernel_rfl) (by kernel_rfl)) ?_
  intro W base args ds gs before hval0 hW hcnd _
  have hval : ∀ (j : Nat) t v, Try.f5.params[j]? = some t → args[j]? = some v → Value.okWide Try.prog W .any base t v := hval0
  have hW' := hW
  obtain ⟨p, q, hA0, hV, rfl, hfz, hnd⟩ := hW
  have hA : DataW.TrodAll enc Try.prog W 0 (fun _ => true) true Try.f5.params.toList args.toList ds p := hA0
  rw [Try.params5] at hA hval
  obtain ⟨v0, vs0, d0, ds0, p0, q0, hargs0, rfl, rfl, h0, r0⟩ := trodAll_cons hA
  obtain ⟨rfl, rfl, rfl⟩ := trodAll_nil r0
  obtain rfl : args = #[v0] := by cases args; simp_all
  obtain ⟨rfl, rfl⟩ := trodVars_none hV
  obtain ⟨a0, rfl, rfl, rfl, wa0⟩ := open_string Try.underlying9 (hval 0 9 v0 rfl rfl) h0
  clear hA0 hval0
  simp only [List.append_nil] at hW'
  refine (NumR.law_unseal a0 W wa0).mono fun e W' ⟨he, hw⟩ => ?_
  subst he
  exact ⟨_, rfl, _, _, _, [], [], [], hW', trodAll_mk1 (shut_bool Try.underlying4 _), trodAll_mk1 (shut_string Try.underlying9 wa0), rfl, hw.frame _, fun h => by cases h⟩

theorem fnExactUnseal_holds : Rows.FnExactUnsealSaid :=
  OpenClaim.holds_of_wide 5 Try.f5 rfl rfl rfl rfl rfl rfl rfl ⟨rfl, rfl, rfl, rfl, rfl⟩ rfl rfl rfl rfl rfl (by kernel_rfl) Try.func5 (by kernel_rfl)
    (of_decide_eq_true (by kernel_rfl)) (by unfold Func.isWrapper; first | (rw [if_pos (by decide +kernel)]; kernel_rfl) | (rw [if_neg (by decide +kernel)]; exact ⟨rfl, rfl⟩))
    (fun os started H enc _ => fnExactUnseal_lifted os started H enc)
end Go.Proofs.Ythmofcckjakhkad
