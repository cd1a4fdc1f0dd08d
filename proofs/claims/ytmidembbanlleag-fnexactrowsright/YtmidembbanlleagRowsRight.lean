/- Proves that at every list of rows impl.RowsRight answers as spec.RowsRight does, and that it writes into nothing (the law FnExactRowsRight returns true, and the rows read as they did); no condition. -/
import Derived.Test.YtmidembbanlleagRwR
namespace Go.Proofs.Ytmidembbanlleag.OpR
open Go.ChangeShapes Go.WideShapes Go.ChangeAt Go.RowKit
set_option linter.unusedVariables false
set_option maxRecDepth 100000 in
set_option maxHeartbeats 400000 in
theorem all_rowsRight (w : World) (ao : Option Addr) (cap : Nat) (l : List PropV) (hC : CameR w ao l) :
    Calls Try.prog 3 #[.slice ao l.length cap] w fun e w' => e = .returned (.bool true) ∧ Below w.heap.size w w' := by
  obtain ⟨hl, hA, hS⟩ := hC
  have hsz := szRowS_any l ao cap 1048576 w (by omega) (by omega) hl hA hS
  have HA : Hid (PropsAt w ao l) := ⟨hA⟩
  have HLn : Hid (l.length ≤ maxLen) := ⟨hl⟩
  unfold maxLen at hl
  have m1 : Hid True := ⟨trivial⟩
  have m2 : Hid True := ⟨trivial⟩
  clear hA hS
  go_enter Try.func3, Try.ntmps3
  go_wp2_with (first | (go_at_call 6; refine hsz.mono ?_; rintro e w1 ⟨m, rfl, hm1, hm2, hm, hb1⟩; have Hm := hide hm; clear hm hsz) | (go_at_call 8; clear m1; obtain ⟨hl2, hs2⟩ := Hm.out (by omega); clear hs2; refine (toRowS_any l ao cap w1 hl2 (HA.out.stays hb1)).mono ?_; rintro e w2 ⟨rfl, hx2, hb2⟩; have hB2 := hb1.trans (hb2.mono hb1.size); have h3 := sRowsRight_any l (some ⟨w1.heap.size, 0, none⟩) l.length w2 HLn.out hx2.propsAt) | (go_at_call 7; refine h3.mono ?_; rintro e w3 ⟨rfl, hb3⟩; have hB3 := hB2.trans (hb3.mono hB2.size); clear h3) | (go_at_call 8; clear m2; refine (toRowS_any l ao cap w3 hl2 (HA.out.stays hB3)).mono ?_; rintro e w4 ⟨rfl, hx4, hb4⟩; have hB4 := hB3.trans (hb4.mono hB3.size); have h5 := iRowsRight_any l (some ⟨w3.heap.size, 0, none⟩) l.length w4 HLn.out hx4.propsAt) | (go_at_call 9; refine h5.mono ?_; rintro e w5 ⟨rfl, hb5⟩; have hB5 := hB4.trans (hb5.mono hB4.size); clear h5) | (go_at_call 8; refine (toRowS_any l ao cap w5 hl2 (HA.out.stays hB5)).mono ?_; rintro e w6 ⟨rfl, hx6, hb6⟩; have hB6 := hB5.trans (hb6.mono hB5.size); have h7 := eqRowS_same l (some ⟨w3.heap.size, 0, none⟩) (some ⟨w5.heap.size, 0, none⟩) l.length l.length w6 HLn.out ((hx4.stays hb5).stays hb6).propsAt hx6.propsAt) | (go_at_call 10; refine h7.mono ?_; rintro e w7 ⟨rfl, hb7⟩; have hB7 := hB6.trans (hb7.mono hB6.size); clear h7))
  all_goals (go_ret; first | exact ⟨rfl, hB7⟩ | exact ⟨rfl, hb1⟩)
end Go.Proofs.Ytmidembbanlleag.OpR
namespace Go.Proofs.Ytmidembbanlleag
open Go.ChangeShapes Go.WideShapes Go.ChangeAt Go.RowKit Go.ChangeMaps
set_option linter.unusedVariables false
set_option maxRecDepth 100000 in
theorem fnExactRowsRight_lifted (os : Os) (started : os.Started) (H : Type) (enc : TypeId × Value → H) :
    ReturnsInHanded {} Try.checked os 3 .any (Rows.fnExactRowsRightSpec.pre6 enc Try.prog Try.f3 Rows.fnExactRowsRightRow.domain false) (Rows.fnExactRowsRightSpec.post enc Try.prog Try.f3 false true false false) := by
  refine returnsInHanded_of_change (C := Try.checked) (by kernel_rfl) started (by kernel_rfl) Try.func3
    (ChangeSpec.witness6 (enc := enc) (C := Try.checked) false ⟨#[], #[.slice none 0 0], []⟩ 8 (by kernel_rfl) (by kernel_rfl) (by kernel_rfl) (by kernel_rfl)) ?_
  intro W base args ds gs before hval0 hW hcnd _
  have hval : ∀ (j : Nat) t v, Try.f3.params[j]? = some t → args[j]? = some v → Value.okWide Try.prog W .any base t v := hval0
  have hW' := hW
  obtain ⟨p, q, hA0, hV, rfl, hfz, hnd⟩ := hW
  have hA : DataW.TrodAll enc Try.prog W 0 (fun _ => true) true Try.f3.params.toList args.toList ds p := hA0
  rw [Try.params3] at hA hval
  obtain ⟨v0, vs0, d0, ds0, p0, q0, hargs0, rfl, rfl, h0, r0⟩ := trodAll_cons hA
  obtain ⟨rfl, rfl, rfl⟩ := trodAll_nil r0
  obtain rfl : args = #[v0] := by cases args; simp_all
  obtain ⟨rfl, rfl⟩ := trodVars_none hV
  have hlt : ∀ x, (x ∈ p0) → x.block < W.heap.size := fun x hx => hW'.lt x (by simpa using hx)
  obtain ⟨ao0, cap0, l0, rfl, f0⟩ := OpR.cameRows (hval 0 22 v0 rfl rfl) h0
  clear hA0 hval0
  simp only [List.append_nil] at hW'
  refine (OpR.all_rowsRight W ao0 cap0 l0 f0).mono fun e W' ⟨he, hw⟩ => ?_
  subst he
  exact ⟨_, rfl, _, _, _, [], _, [], hW', trodAll_mk1 (shut_bool Try.underlying4 _), trodAll_mk1 (Below.trod OpR.laidOut (by kernel_rfl) (of_decide_eq_true (by kernel_rfl)) h0 hw (fun x hx => hlt x hx)), rfl, hw.frame _, fun h => by cases h⟩

theorem fnExactRowsRight_holds : Rows.FnExactRowsRightSaid :=
  OpenClaim.holds_of_wide 3 Try.f3 rfl rfl rfl rfl rfl rfl rfl ⟨rfl, rfl, rfl, rfl, rfl⟩ rfl rfl rfl rfl rfl (by kernel_rfl) Try.func3 (by kernel_rfl)
    (of_decide_eq_true (by kernel_rfl)) (by unfold Func.isWrapper; first | (rw [if_pos (by decide +kernel)]; kernel_rfl) | (rw [if_neg (by decide +kernel)]; exact ⟨rfl, rfl⟩))
    (fun os started H enc _ => fnExactRowsRight_lifted os started H enc)
#print axioms fnExactRowsRight_holds
end Go.Proofs.Ytmidembbanlleag
