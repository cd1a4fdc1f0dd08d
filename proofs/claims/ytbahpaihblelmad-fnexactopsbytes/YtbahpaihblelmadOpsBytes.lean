/- Proves that at every list of ops impl.OpsBytes answers as spec.OpsBytes does, and that it writes into nothing (the law FnExactOpsBytes returns true, and the ops read as they did); no condition. -/
import Derived.Test.YtbahpaihblelmadOpLawB
import Derived.Test.YtbahpaihblelmadIBytes
namespace Go.Proofs.Ytbahpaihblelmad.OpR
open Go.ChangeShapes Go.WideShapes Go.ChangeAt Go.RowKit
theorem all_opsBytes (w : World) (ao : Option Addr) (cap : Nat) (l : List OpV) (hC : CameOps w ao l) :
    Calls Try.prog 8 #[.slice ao l.length cap] w fun e w' => e = .returned (.bool true) ∧ Below w.heap.size w w' :=
  law_opsBytes w ao cap l hC (fun l ao cap w h1 h2 h3 h4 => iOpsBytes_any l ao cap w (by unfold maxLen; omega) h2 h3 (fun o ho => ⟨by have := (h4 o ho).1; unfold maxLen; omega, by have := (h4 o ho).2; unfold maxLen; omega⟩))
end Go.Proofs.Ytbahpaihblelmad.OpR
namespace Go.Proofs.Ytbahpaihblelmad
open Go.ChangeShapes Go.WideShapes Go.ChangeAt Go.RowKit Go.ChangeMaps
set_option linter.unusedVariables false
set_option maxRecDepth 100000 in
theorem fnExactOpsBytes_lifted (os : Os) (started : os.Started) (H : Type) (enc : TypeId × Value → H) :
    ReturnsInHanded {} Try.checked os 8 .any (Rows.fnExactOpsBytesSpec.pre6 enc Try.prog Try.f8 Rows.fnExactOpsBytesRow.domain false) (Rows.fnExactOpsBytesSpec.post enc Try.prog Try.f8 false true false false) := by
  refine returnsInHanded_of_change (C := Try.checked) (by kernel_rfl) started (by kernel_rfl) Try.func8
    (ChangeSpec.witness6 (enc := enc) (C := Try.checked) false ⟨#[], #[.slice none 0 0], []⟩ 8 (by kernel_rfl) (by kernel_rfl) (by kernel_rfl) (by kernel_rfl)) ?_
  intro W base args ds gs before hval0 hW hcnd _
  have hval : ∀ (j : Nat) t v, Try.f8.params[j]? = some t → args[j]? = some v → Value.okWide Try.prog W .any base t v := hval0
  have hW' := hW
  obtain ⟨p, q, hA0, hV, rfl, hfz, hnd⟩ := hW
  have hA : DataW.TrodAll enc Try.prog W 0 (fun _ => true) true Try.f8.params.toList args.toList ds p := hA0
  rw [Try.params8] at hA hval
  obtain ⟨v0, vs0, d0, ds0, p0, q0, hargs0, rfl, rfl, h0, r0⟩ := trodAll_cons hA
  obtain ⟨rfl, rfl, rfl⟩ := trodAll_nil r0
  obtain rfl : args = #[v0] := by cases args; simp_all
  obtain ⟨rfl, rfl⟩ := trodVars_none hV
  have hlt : ∀ x, (x ∈ p0) → x.block < W.heap.size := fun x hx => hW'.lt x (by simpa using hx)
  obtain ⟨ao0, cap0, l0, rfl, f0⟩ := OpR.cameOps (hval 0 37 v0 rfl rfl) h0
  clear hA0 hval0
  simp only [List.append_nil] at hW'
  refine (OpR.all_opsBytes W ao0 cap0 l0 f0).mono fun e W' ⟨he, hw⟩ => ?_
  subst he
  exact ⟨_, rfl, _, _, _, [], _, [], hW', trodAll_mk1 (shut_bool Try.underlying4 _), trodAll_mk1 (Below.trod OpR.laidOut (by kernel_rfl) (of_decide_eq_true (by kernel_rfl)) h0 hw (fun x hx => hlt x hx)), rfl, hw.frame _, fun h => by cases h⟩

theorem fnExactOpsBytes_holds : Rows.FnExactOpsBytesSaid :=
  OpenClaim.holds_of_wide 8 Try.f8 rfl rfl rfl rfl rfl rfl rfl ⟨rfl, rfl, rfl, rfl, rfl⟩ rfl rfl rfl rfl rfl (by kernel_rfl) Try.func8 (by kernel_rfl)
    (of_decide_eq_true (by kernel_rfl)) (by unfold Func.isWrapper; first | (rw [if_pos (by decide +kernel)]; kernel_rfl) | (rw [if_neg (by decide +kernel)]; exact ⟨rfl, rfl⟩))
    (fun os started H enc _ => fnExactOpsBytes_lifted os started H enc)
#print axioms fnExactOpsBytes_holds
end Go.Proofs.Ytbahpaihblelmad
