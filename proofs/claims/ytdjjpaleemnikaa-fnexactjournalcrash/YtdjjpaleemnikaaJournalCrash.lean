/- Proves that at every journal and every count impl.JournalCrash answers as spec.JournalCrash does, field by field (the law FnExactJournalCrash returns true); no condition. -/
import Derived.Test.YtdjjpaleemnikaaJcrW
namespace Go.Proofs.Ytdjjpaleemnikaa.OpR
open Go.ChangeShapes Go.WideShapes Go.ChangeAt Go.RowKit
set_option linter.unusedVariables false
set_option maxRecDepth 100000 in
set_option maxHeartbeats 1000000 in
theorem law_journalCrash (w : World) (j : JrnV) (keep : Int) (hC : CameJr j) (hk : (Lit.int IntKind.i64 keep).wf = true) :
    Calls Try.prog 4 #[j.agg, .int .i64 keep] w fun e w' => e = .returned (.bool true) ∧ Below w.heap.size w w' := by
  have hsz := fun W => szJr_any j W hC.1
  have hto := fun W => toJr_any j W
  have hsp := fun W (h : j.log.size ≤ 1048576) => sCrash_any j keep W h
  have him := fun W (h : j.log.size ≤ 1048576) => iCrash_any j keep W h
  obtain ⟨x, hx⟩ : ∃ x, x = crashRes j keep := ⟨_, rfl⟩
  rw [← hx] at hsp him
  have heq := fun W => eqJr_same x W
  have HB := hide (JB.new w 45 j)
  obtain ⟨p0, p1⟩ := HB.out.cells
  unfold JrnV.agg at *
  have HSZ := hide hsz
  have HTO := hide hto
  have HSP := hide hsp
  have HIM := hide him
  have HEQ := hide heq
  have M1 : Hid True := ⟨trivial⟩
  clear hsz hto hsp him heq hx hC hk
  go_enter Try.func4, Try.ntmps4
  go_wp2_with (first | (go_at_call 18; refine (HSZ.out _).mono ?_; rintro e w1 ⟨m, rfl, hm0, hm1, hm2, hb1⟩; have HM := hide hm2; have HB1 := hide (HB.out.step hb1); clear hb1 hm2 p0 p1; obtain ⟨p0, p1⟩ := HB1.out.cells) | (go_at_call 20; clear M1; refine (HTO.out _).mono ?_; rintro e w2 ⟨rfl, hb2⟩; have HB2 := hide (HB1.out.step hb2); clear hb2 p0 p1; obtain ⟨p0, p1⟩ := HB2.out.cells) | (go_at_call 19; refine (HSP.out _ (HM.out (by omega))).mono ?_; rintro e w3 ⟨rfl, hb3⟩; have HX := hide (JB.new w3 47 x); have HB3 := hide ((HB2.out.step hb3).step HX.out.below); clear hb3 p0 p1; obtain ⟨p0, p1⟩ := HB3.out.cells; obtain ⟨q0, q1⟩ := HX.out.cells) | (go_at_call 20; refine (HTO.out _).mono ?_; rintro e w4 ⟨rfl, hb4⟩; have HX4 := hide (HX.out.step hb4); have HB4 := hide (HB3.out.step hb4); clear hb4 p0 p1 q0 q1; obtain ⟨p0, p1⟩ := HB4.out.cells; obtain ⟨q0, q1⟩ := HX4.out.cells) | (go_at_call 21; refine (HIM.out _ (HM.out (by omega))).mono ?_; rintro e w5 ⟨rfl, hb5⟩; have HG := hide (JB.new w5 47 x); have HX5 := hide ((HX4.out.step hb5).step HG.out.below); have HB5 := hide ((HB4.out.step hb5).step HG.out.below); clear hb5 p0 p1 q0 q1; obtain ⟨p0, p1⟩ := HB5.out.cells; obtain ⟨q0, q1⟩ := HX5.out.cells; obtain ⟨r0, r1⟩ := HG.out.cells) | (go_at_call 22; refine (HEQ.out _).mono ?_; rintro e w6 ⟨rfl, hb6⟩; have HB6 := hide (HB5.out.step hb6); clear hb6) | fail)
  · go_ret
    exact ⟨rfl, HB1.out.below⟩
  · go_ret
    exact ⟨rfl, HB6.out.below⟩
end Go.Proofs.Ytdjjpaleemnikaa.OpR
namespace Go.Proofs.Ytdjjpaleemnikaa
open Go.ChangeShapes Go.WideShapes Go.ChangeAt Go.RowKit Go.ChangeMaps
set_option linter.unusedVariables false
set_option maxRecDepth 100000 in
theorem fnExactJournalCrash_lifted (os : Os) (started : os.Started) (H : Type) (enc : TypeId × Value → H) :
    ReturnsInHanded {} Try.checked os 4 .any (Rows.fnExactJournalCrashSpec.pre6 enc Try.prog Try.f4 Rows.fnExactJournalCrashRow.domain false) (Rows.fnExactJournalCrashSpec.post enc Try.prog Try.f4 false true false false) := by
  refine returnsInHanded_of_change (C := Try.checked) (by kernel_rfl) started (by kernel_rfl) Try.func4
    (ChangeSpec.witness6 (enc := enc) (C := Try.checked) false ⟨#[], #[.agg #[.string ByteArray.empty, .int .i64 0], .int .i64 0], []⟩ 8 (by kernel_rfl) (by kernel_rfl) (by kernel_rfl) (by kernel_rfl)) ?_
  intro W base args ds gs before hval0 hW hcnd _
  have hval : ∀ (j : Nat) t v, Try.f4.params[j]? = some t → args[j]? = some v → Value.okWide Try.prog W .any base t v := hval0
  have hW' := hW
  obtain ⟨p, q, hA0, hV, rfl, hfz, hnd⟩ := hW
  have hA : DataW.TrodAll enc Try.prog W 0 (fun _ => true) true Try.f4.params.toList args.toList ds p := hA0
  rw [Try.params4] at hA hval
  obtain ⟨v0, vs0, d0, ds0, p0, q0, hargs0, rfl, rfl, h0, r0⟩ := trodAll_cons hA
  obtain ⟨v1, vs1, d1, ds1, p1, q1, hargs1, rfl, rfl, h1, r1⟩ := trodAll_cons r0
  obtain ⟨rfl, rfl, rfl⟩ := trodAll_nil r1
  obtain rfl : args = #[v0, v1] := by cases args; simp_all
  obtain ⟨rfl, rfl⟩ := trodVars_none hV
  have hlt : ∀ x, (x ∈ p0 ∨ x ∈ p1) → x.block < W.heap.size := fun x hx => hW'.lt x (by simpa using hx)
  obtain ⟨j0, rfl, f0⟩ := OpR.cameJr (hval 0 45 v0 rfl rfl) h0
  obtain ⟨a1, rfl, _, _, f1⟩ := open_int Try.underlying2 (hval 1 2 v1 rfl rfl) h1
  clear hA0 hval0
  simp only [List.append_nil] at hW'
  refine (OpR.law_journalCrash W j0 a1 f0 f1).mono fun e W' ⟨he, hw⟩ => ?_
  subst he
  exact ⟨_, rfl, _, _, _, [], _, [], hW', trodAll_mk1 (shut_bool Try.underlying4 _), trodAll_mk2 (Below.trod OpR.laidOut (by kernel_rfl) (of_decide_eq_true (by kernel_rfl)) h0 hw (fun x hx => hlt x (.inl hx))) (Below.trod OpR.laidOut (by kernel_rfl) (of_decide_eq_true (by kernel_rfl)) h1 hw (fun x hx => hlt x (.inr hx))), rfl, hw.frame _, fun h => by cases h⟩

theorem fnExactJournalCrash_holds : Rows.FnExactJournalCrashSaid :=
  OpenClaim.holds_of_wide 4 Try.f4 rfl rfl rfl rfl rfl rfl rfl ⟨rfl, rfl, rfl, rfl, rfl⟩ rfl rfl rfl rfl rfl (by kernel_rfl) Try.func4 (by kernel_rfl)
    (of_decide_eq_true (by kernel_rfl)) (by unfold Func.isWrapper; first | (rw [if_pos (by decide +kernel)]; kernel_rfl) | (rw [if_neg (by decide +kernel)]; exact ⟨rfl, rfl⟩))
    (fun os started H enc _ => fnExactJournalCrash_lifted os started H enc)
#print axioms fnExactJournalCrash_holds
end Go.Proofs.Ytdjjpaleemnikaa
