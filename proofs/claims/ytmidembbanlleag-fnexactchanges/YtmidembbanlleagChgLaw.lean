/- Proves the walk of the law FnExactChanges. -/
import Derived.Test.YtmidembbanlleagRwL
import Derived.Test.YtmidembbanlleagIChgC
namespace Go.Proofs.Ytmidembbanlleag.OpR
open Go.ChangeShapes Go.WideShapes Go.ChangeAt Go.RowKit
set_option linter.unusedVariables false

theorem owns_cellsC' {w : World} {base : Nat} {ao : Option Addr} {cap n : Nat} {l : List ChV} (h : w.ownsRow base 48 3 (.slice ao n cap) n (flatG ChV.cells l)) (hn : l.length = n) : ChsAt w ao l := by
  subst hn
  exact owns_cellsC h
set_option maxRecDepth 100000 in
set_option maxHeartbeats 4000000 in
theorem law_changes (w : World) (ao : Option Addr) (cap : Nat) (l : List PropV) (ao1 : Option Addr) (cap1 : Nat) (l1 : List PropV) (hR : CameR w ao l) (hC : CameR w ao1 l1) :
    Calls Try.prog 4 #[.slice ao l.length cap, .slice ao1 l1.length cap1] w fun e w' => e = .returned (.bool true) ∧ Below w.heap.size w w' := by
  obtain ⟨hl, hA, hS⟩ := hR
  obtain ⟨hl1, hA1, hS1⟩ := hC
  have HS0 := hide (szRowS_any l ao cap 1048576 w (by omega) (by omega) hl hA hS)
  have hsz1 := fun W (hW : Below w.heap.size w W) (m : Int) (h0 : 0 ≤ m) (h1 : m ≤ 1048576) => szRowS_any l1 ao1 cap1 m W h0 h1 hl1 (hA1.stays hW) hS1
  have HS1 := hide hsz1
  have HA := hide hA
  have HA1 := hide hA1
  have Hl := hide hl
  have Hl1 := hide hl1
  obtain ⟨R, hRe⟩ : ∃ R, changesRes l l1 = R := ⟨_, rfl⟩
  have hRl : R.length ≤ 300 := by rw [← hRe]; exact changes_len l l1
  have HRe := hide hRe
  clear hA hS hA1 hS1 hl hl1 hsz1 hRe
  go_enter Try.func4, Try.ntmps4
  go_wp2_with (first | (go_at_call 6; refine HS0.out.mono ?_; rintro e w1 ⟨m, rfl, hm0, hm1, hm2, hb1⟩; have HM := hide hm2; have HB1 := hide hb1; have HS2 := hide (fun h => HS1.out _ HB1.out m h hm0); clear hm2 hb1 HS0) | (go_at_call 6; refine (HS2.out (by omega)).mono ?_; rintro e w2 ⟨n, rfl, hn0, hn1, hn2, hb2⟩; have HN := hide hn2; have HB2 := hide (HB1.out.trans (hb2.mono HB1.out.size)); clear hn2 hb2 HS2) | (go_at_call 8; fail))
  · go_ret
    exact ⟨rfl, HB1.out⟩
  · go_ret
    exact ⟨rfl, HB2.out⟩
  obtain ⟨hl2, hs2⟩ := HM.out (by omega)
  obtain ⟨hl3, hs3⟩ := HN.out (by omega)
  have Hl2 := hide hl2
  have Hs2 := hide hs2
  have Hl3 := hide hl3
  have Hs3 := hide hs3
  obtain ⟨K1, hK1⟩ : ∃ K1, 1 + 2 * l.length = K1 := ⟨_, rfl⟩
  obtain ⟨K2, hK2⟩ : ∃ K2, K1 + 2 * l1.length = K2 := ⟨_, rfl⟩
  obtain ⟨KR, hKR⟩ : ∃ KR, 1 + 3 * R.length = KR := ⟨_, rfl⟩
  have hK1b : K1 ≤ 4194304 := by omega
  have hK10 : 0 < K1 := by omega
  have hK2n : ¬ ((K2 : Nat) : Int) < 0 := by omega
  have hKRn : ¬ ((KR : Nat) : Int) < 0 := by omega
  have HK1 := hide hK1
  have HK2 := hide hK2
  have HKR := hide hKR
  clear HM HN hl2 hs2 hl3 hs3 hK1 hK2 hKR HS1 hm0 hm1 hn0 hn1
  have m1 : Hid True := ⟨trivial⟩
  have m2 : Hid True := ⟨trivial⟩
  have m3 : Hid True := ⟨trivial⟩
  have m4 : Hid True := ⟨trivial⟩
  have m5 : Hid True := ⟨trivial⟩
  have m6 : Hid True := ⟨trivial⟩
  have m7 : Hid True := ⟨trivial⟩
  have m8 : Hid True := ⟨trivial⟩
  have m9 : Hid True := ⟨trivial⟩
  have m10 : Hid True := ⟨trivial⟩
  have m11 : Hid True := ⟨trivial⟩
  have m12 : Hid True := ⟨trivial⟩
  have m13 : Hid True := ⟨trivial⟩
  have m14 : Hid True := ⟨trivial⟩
  have m15 : Hid True := ⟨trivial⟩
  go_wp2_with (first | (go_at_call 8; clear m1; refine (toRowS_any l ao cap w2 Hl2.out (HA.out.stays HB2.out)).mono ?_; rintro e w3 ⟨rfl, hx3, hb3⟩; have HB3 := hide (HB2.out.trans (hb3.mono HB2.out.size)); have HX3 := hide hx3; clear hx3 hb3) | (go_at_call 8; clear m2; refine (toRowS_any l1 ao1 cap1 w3 Hl3.out (HA1.out.stays HB3.out)).mono ?_; rintro e w4 ⟨rfl, hy4, hb4⟩; have HB4 := hide (HB3.out.trans (hb4.mono HB3.out.size)); have HX4 := hide (HX3.out.stays hb4); have HY4 := hide hy4; have h5 := sChanges_any l l1 (some ⟨w2.heap.size, 0, none⟩) (some ⟨w3.heap.size, 0, none⟩) l.length l1.length w4 Hl.out Hl1.out HX4.out.propsAt HY4.out.propsAt; rw [HRe.out] at h5; have H5 := hide h5; clear hy4 hb4 h5) | (go_at_call 11; refine (H5.out).mono ?_; rintro e w5 ⟨v5, rfl, hO5, hb5⟩; obtain ⟨a5, c5, rfl, _, hA5⟩ := owns_atC hO5; have HB5 := hide (HB4.out.trans (hb5.mono HB4.out.size)); have HW5 := hide (CLies.of hA5); clear hO5 hA5 hb5 H5) | (go_at_call 8; clear m3; refine (toRowS_any l ao cap w5 Hl2.out (HA.out.stays HB5.out)).mono ?_; rintro e w6 ⟨rfl, hx6, hb6⟩; have HB6 := hide (HB5.out.trans (hb6.mono HB5.out.size)); have HW6 := hide (HW5.out.step hb6); have hz6 := hx6.lt; have HX6 := hide hx6; clear hx6 hb6) | (go_at_call 8; clear m4; refine (toRowS_any l1 ao1 cap1 w6 Hl3.out (HA1.out.stays HB6.out)).mono ?_; rintro e w7 ⟨rfl, hy7, hb7⟩; have HB7 := hide (HB6.out.trans (hb7.mono HB6.out.size)); have HW7 := hide (HW6.out.step hb7); have HX7 := hide (HX6.out.stays hb7); have hz7 := hy7.lt; have HY7 := hide hy7; have h8 := iChanges_any l l1 (some ⟨w5.heap.size, 0, none⟩) (some ⟨w6.heap.size, 0, none⟩) l.length l1.length w7 Hl.out Hl1.out (Nat.le_refl _) (Nat.le_refl _) HX7.out.propsAt HY7.out.propsAt Hs2.out Hs3.out; rw [HRe.out] at h8; have H8 := hide h8; clear hy7 hb7 h8) | (go_at_call 12; clear m5; refine (H8.out).mono ?_; rintro e w8 ⟨v8, rfl, hO8, hb8⟩; obtain ⟨a8, c8, rfl, _, _⟩ := owns_atC hO8; have HB8 := hide (HB7.out.trans (hb8.mono HB7.out.size)); have HW8 := hide (HW7.out.step hb8); have HX8 := hide (HX7.out.stays hb8); have HY8 := hide (HY7.out.stays hb8); have hz8 := hb8.size; have HG8 := hide hO8; clear hO8 hb8 H8) | (go_at_call 13; clear m6; refine (eqChangeS_same R a8 a5 c8 c5 w8 (by unfold maxLen; omega) (owns_cellsC HG8.out) HW8.out.at_).mono ?_; rintro e w9 ⟨rfl, hb9⟩; have HB9 := hide (HB8.out.trans (hb9.mono HB8.out.size)); have HW9 := hide (HW8.out.step hb9); have HX9 := hide (HX8.out.stays hb9); have HY9 := hide (HY8.out.stays hb9); have HG9 := hide (owns_stays2 HG8.out hb9); clear hb9) | (go_at_call 8; clear m7; refine (toRowS_any l ao cap w9 Hl2.out (HA.out.stays HB9.out)).mono ?_; rintro e w10 ⟨rfl, hx10, hb10⟩; have HB10 := hide (HB9.out.trans (hb10.mono HB9.out.size)); have HW10 := hide (HW9.out.step hb10); have HX10 := hide (HX9.out.stays hb10); have HY10 := hide (HY9.out.stays hb10); have HG10 := hide (owns_stays2 HG9.out hb10); have HZ10 := hide hx10; clear hx10 hb10) | (go_at_call 10; clear m8; refine (eqRowS_same l (some ⟨w5.heap.size, 0, none⟩) (some ⟨w9.heap.size, 0, none⟩) l.length l.length w10 Hl.out HX10.out.propsAt HZ10.out.propsAt).mono ?_; rintro e w11 ⟨rfl, hb11⟩; have HB11 := hide (HB10.out.trans (hb11.mono HB10.out.size)); have HW11 := hide (HW10.out.step hb11); have HX11 := hide (HX10.out.stays hb11); have HY11 := hide (HY10.out.stays hb11); have HG11 := hide (owns_stays2 HG10.out hb11); clear hb11) | (go_at_call 8; clear m9; refine (toRowS_any l1 ao1 cap1 w11 Hl3.out (HA1.out.stays HB11.out)).mono ?_; rintro e w12 ⟨rfl, hy12, hb12⟩; have HB12 := hide (HB11.out.trans (hb12.mono HB11.out.size)); have HW12 := hide (HW11.out.step hb12); have HX12 := hide (HX11.out.stays hb12); have HY12 := hide (HY11.out.stays hb12); have HG12 := hide (owns_stays2 HG11.out hb12); have HZ12 := hide hy12; clear hy12 hb12) | (go_at_call 10; clear m10; refine (eqRowS_same l1 (some ⟨w6.heap.size, 0, none⟩) (some ⟨w11.heap.size, 0, none⟩) l1.length l1.length w12 Hl1.out HY12.out.propsAt HZ12.out.propsAt).mono ?_; rintro e w13 ⟨rfl, hb13⟩; have HB13 := hide (HB12.out.trans (hb13.mono HB12.out.size)); have HW13 := hide (HW12.out.step hb13); have HX13 := hide (HX12.out.stays hb13); have HY13 := hide (HY12.out.stays hb13); have HG13 := hide (owns_stays2 HG12.out hb13); have h14 := markRowS_any l (some ⟨w5.heap.size, 0, none⟩) l.length w5.heap.size 1 w13 Hl2.out (by omega) (by omega) (HX13.out.ownsAll prop_len Hl.out (Nat.le_refl _)); rw [HK1.out] at h14; have H14 := hide h14; clear hb13 h14) | (go_at_call 14; clear m11; refine (H14.out).mono ?_; rintro e w14 ⟨rfl, _, hg14⟩; have HT14 := hide (Twixt.grown (base := w5.heap.size) (top := w5.heap.size + 1) hg14 (fun g e => by have e2 : w5.heap.size = g := Option.some.inj e; omega)); have HB14 := hide (below_twixt HB13.out HT14.out HB5.out.size); have HW14 := hide (HW13.out.twixt HT14.out (Nat.le_refl _)); have HY14 := hide (HY13.out.twixt HT14.out (.inr (by omega))); have HG14 := hide (owns_twixt HG13.out HT14.out (by omega)); have h15 := markRowS_any l1 (some ⟨w6.heap.size, 0, none⟩) l1.length w6.heap.size K1 w14 Hl3.out hK10 (by omega) (HY14.out.ownsAll prop_len Hl1.out (Nat.le_refl _)); rw [HK2.out] at h15; have H15 := hide h15; clear hg14 h15 H14) | (go_at_call 14; refine (H15.out).mono ?_; rintro e w15 ⟨rfl, _, hg15⟩; have HT15 := hide (Twixt.grown (base := w6.heap.size) (top := w6.heap.size + 1) hg15 (fun g e => by have e2 : w6.heap.size = g := Option.some.inj e; omega)); have HB15 := hide (below_twixt HB14.out HT15.out HB6.out.size); have HW15 := hide (HW14.out.twixt HT15.out (by omega)); have HG15 := hide (owns_twixt HG14.out HT15.out (by omega)); clear hg15 H15) | (go_at_call 13; clear m12; refine (eqChangeS_same R a8 a5 c8 c5 w15 (by unfold maxLen; omega) (owns_cellsC HG15.out) HW15.out.at_).mono ?_; rintro e w16 ⟨rfl, hb16⟩; have HB16 := hide (HB15.out.trans (hb16.mono HB15.out.size)); have HW16 := hide (HW15.out.step hb16); have HG16 := hide (owns_stays2 HG15.out hb16); have h17 := markChangeS_any R a8 c8 w7.heap.size 1 w16 (by omega) (by omega) (by omega) HG16.out; rw [HKR.out] at h17; have H17 := hide h17; clear hb16 h17) | (go_at_call 15; refine (H17.out).mono ?_; rintro e w17 ⟨rfl, hO17, hg17⟩; have HT17 := hide (Twixt.grown (base := w7.heap.size) (top := w16.heap.size) hg17 (fun g e => World.ownsRow.lt HG16.out g e)); have HB17 := hide (below_twixt HB16.out HT17.out HB7.out.size); have HW17 := hide (HW16.out.twixt HT17.out (by omega)); have HP17 := hide (owns_cellsC' hO17 (markC_len _ _)); have h18 := heldChangeS_any R.length 1 c8 a8 w17 (by omega) (by omega) (by omega) HP17.out; rw [HKR.out] at h18; have H18 := hide h18; clear hO17 hg17 h18 H17) | (go_at_call 16; clear m13; refine (H18.out).mono ?_; rintro e w18 ⟨rfl, hb18⟩; have HB18 := hide (HB17.out.trans (hb18.mono HB17.out.size)); have HW18 := hide (HW17.out.step hb18); have HP18 := hide (HP17.out.stays hb18); clear hb18 H18) | (go_at_call 8; clear m14; refine (toRowS_any l ao cap w18 Hl2.out (HA.out.stays HB18.out)).mono ?_; rintro e w19 ⟨rfl, hx19, hb19⟩; have HB19 := hide (HB18.out.trans (hb19.mono HB18.out.size)); have HW19 := hide (HW18.out.step hb19); have HP19 := hide (HP18.out.stays hb19); have HX19 := hide hx19; clear hx19 hb19) | (go_at_call 8; refine (toRowS_any l1 ao1 cap1 w19 Hl3.out (HA1.out.stays HB19.out)).mono ?_; rintro e w20 ⟨rfl, hy20, hb20⟩; have HB20 := hide (HB19.out.trans (hb20.mono HB19.out.size)); have HW20 := hide (HW19.out.step hb20); have HP20 := hide (HP19.out.stays hb20); have HX20 := hide (HX19.out.stays hb20); have h21 := iChanges_any l l1 (some ⟨w18.heap.size, 0, none⟩) (some ⟨w19.heap.size, 0, none⟩) l.length l1.length w20 Hl.out Hl1.out (Nat.le_refl _) (Nat.le_refl _) HX20.out.propsAt hy20.propsAt Hs2.out Hs3.out; rw [HRe.out] at h21; have H21 := hide h21; clear hy20 hb20 h21) | (go_at_call 12; refine (H21.out).mono ?_; rintro e w21 ⟨v21, rfl, hO21, hb21⟩; obtain ⟨a21, c21, rfl, _, hA21⟩ := owns_atC hO21; have HB21 := hide (HB20.out.trans (hb21.mono HB20.out.size)); have HW21 := hide (HW20.out.step hb21); have HP21 := hide (HP20.out.stays hb21); have HA21 := hide hA21; clear hO21 hA21 hb21 H21) | (go_at_call 13; refine (eqChangeS_same R a21 a5 c21 c5 w21 (by unfold maxLen; omega) HA21.out HW21.out.at_).mono ?_; rintro e w22 ⟨rfl, hb22⟩; have HB22 := hide (HB21.out.trans (hb22.mono HB21.out.size)); have HP22 := hide (HP21.out.stays hb22); have h23 := heldChangeS_any R.length 1 c8 a8 w22 (by omega) (by omega) (by omega) HP22.out; rw [HKR.out] at h23; have H23 := hide h23; clear hb22 h23) | (go_at_call 16; refine (H23.out).mono ?_; rintro e w23 ⟨rfl, hb23⟩; have HB23 := hide (HB22.out.trans (hb23.mono HB22.out.size)); clear hb23 H23))
  go_ret
  exact ⟨rfl, HB23.out⟩
end Go.Proofs.Ytmidembbanlleag.OpR
