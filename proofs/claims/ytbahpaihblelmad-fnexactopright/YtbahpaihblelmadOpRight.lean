/- Proves that at every op impl.OpRight answers as spec.OpRight does, and that it writes into nothing (the law FnExactOpRight returns true, and the op reads as it did); no condition. -/
import Derived.Test.YtbahpaihblelmadOpLaw
import Derived.Test.YtbahpaihblelmadIOp
namespace Go.Proofs.Ytbahpaihblelmad.OpR
open Go.ChangeShapes Go.WideShapes Go.ChangeAt Go.RowKit
theorem all_opRight (w : World) (o : OpV) (hz : o.name.size ≤ maxLen ∧ o.value.size ≤ maxLen) :
    Calls Try.prog 6 #[o.agg] w fun e w' => e = .returned (.bool true) ∧ Below w.heap.size w w' :=
  law_opRight w o hz (fun o w h1 h2 => iOp_any o w (by unfold maxLen; omega) (by unfold maxLen; omega))
end Go.Proofs.Ytbahpaihblelmad.OpR
namespace Go.Proofs.Ytbahpaihblelmad
open Go.ChangeShapes Go.WideShapes Go.ChangeAt Go.RowKit Go.ChangeMaps
set_option linter.unusedVariables false
set_option maxRecDepth 100000 in
theorem fnExactOpRight_lifted (os : Os) (started : os.Started) (H : Type) (enc : TypeId × Value → H) :
    ReturnsInHanded {} Try.checked os 6 .any (Rows.fnExactOpRightSpec.pre6 enc Try.prog Try.f6 Rows.fnExactOpRightRow.domain false) (Rows.fnExactOpRightSpec.post enc Try.prog Try.f6 false true false false) := by
  refine returnsInHanded_of_change (C := Try.checked) (by kernel_rfl) started (by kernel_rfl) Try.func6
    (ChangeSpec.witness6 (enc := enc) (C := Try.checked) false ⟨#[], #[.agg #[.int .i64 0, .int .i64 0, .int .i64 0, .int .i64 0, .int .i64 0, .string ByteArray.empty, .string ByteArray.empty]], []⟩ 8 (by kernel_rfl) (by kernel_rfl) (by kernel_rfl) (by kernel_rfl)) ?_
  intro W base args ds gs before hval0 hW hcnd _
  have hval : ∀ (j : Nat) t v, Try.f6.params[j]? = some t → args[j]? = some v → Value.okWide Try.prog W .any base t v := hval0
  have hW' := hW
  obtain ⟨p, q, hA0, hV, rfl, hfz, hnd⟩ := hW
  have hA : DataW.TrodAll enc Try.prog W 0 (fun _ => true) true Try.f6.params.toList args.toList ds p := hA0
  rw [Try.params6] at hA hval
  obtain ⟨v0, vs0, d0, ds0, p0, q0, hargs0, rfl, rfl, h0, r0⟩ := trodAll_cons hA
  obtain ⟨rfl, rfl, rfl⟩ := trodAll_nil r0
  obtain rfl : args = #[v0] := by cases args; simp_all
  obtain ⟨rfl, rfl⟩ := trodVars_none hV
  have hlt : ∀ x, (x ∈ p0) → x.block < W.heap.size := fun x hx => hW'.lt x (by simpa using hx)
  obtain ⟨o0, rfl, f0⟩ := OpR.cameOp (hval 0 31 v0 rfl rfl) h0
  clear hA0 hval0
  simp only [List.append_nil] at hW'
  refine (OpR.all_opRight W o0 f0).mono fun e W' ⟨he, hw⟩ => ?_
  subst he
  exact ⟨_, rfl, _, _, _, [], _, [], hW', trodAll_mk1 (shut_bool Try.underlying4 _), trodAll_mk1 (Below.trod OpR.laidOut (by kernel_rfl) (of_decide_eq_true (by kernel_rfl)) h0 hw (fun x hx => hlt x hx)), rfl, hw.frame _, fun h => by cases h⟩

theorem fnExactOpRight_holds : Rows.FnExactOpRightSaid :=
  OpenClaim.holds_of_wide 6 Try.f6 rfl rfl rfl rfl rfl rfl rfl ⟨rfl, rfl, rfl, rfl, rfl⟩ rfl rfl rfl rfl rfl (by kernel_rfl) Try.func6 (by kernel_rfl)
    (of_decide_eq_true (by kernel_rfl)) (by unfold Func.isWrapper; first | (rw [if_pos (by decide +kernel)]; kernel_rfl) | (rw [if_neg (by decide +kernel)]; exact ⟨rfl, rfl⟩))
    (fun os started H enc _ => fnExactOpRight_lifted os started H enc)
#print axioms fnExactOpRight_holds
end Go.Proofs.Ytbahpaihblelmad
