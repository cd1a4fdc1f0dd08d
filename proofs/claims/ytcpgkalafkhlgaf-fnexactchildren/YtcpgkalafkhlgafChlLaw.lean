/- Proves the walk of the law FnExactChildren. -/
import Derived.Test.YtcpgkalafkhlgafLawS
import Derived.Test.YtcpgkalafkhlgafSChl
namespace Go.Proofs.Ytcpgkalafkhlgaf.OpR
open Go.ChangeShapes Go.WideShapes Go.ChangeAt Go.RowKit
set_option linter.unusedVariables false

theorem insC_bare (n : NodG) : ∀ s : List NodG, insC n.bare (s.map NodG.bare) = (insC n s).map NodG.bare
  | [] => rfl
  | q :: r => by
    simp only [List.map_cons, insC]
    rw [show leName q.bare n.bare = leName q n from rfl]
    split
    · rw [insC_bare n r]; rfl
    · rfl
theorem kidsTo_bare (y : Int) : ∀ s l : List NodG, kidsTo y (s.map NodG.bare) (l.map NodG.bare) = (kidsTo y s l).map NodG.bare
  | s, [] => rfl
  | s, n :: r => by
    simp only [List.map_cons, kidsTo]
    rw [show n.bare.parent = n.parent from rfl, ← kidsTo_bare y _ r]
    congr 1
    split
    · exact insC_bare n s
    · rfl
theorem kidIds_alike {l d : List NodG} (h : d.map NodG.bare = l.map NodG.bare) (x : Int) : kidIds d x = kidIds l x := by
  have e : ∀ l : List NodG, kidIds (l.map NodG.bare) x = kidIds l x := fun l => by
    unfold kidIds kids
    rw [tree_bare, show ([] : List NodG) = ([] : List NodG).map NodG.bare from rfl, kidsTo_bare, List.map_map]
    rfl
  rw [← e d, h, e]
theorem kidIds_len (l : List NodG) (x : Int) : (kidIds l x).length ≤ 150 := by
  unfold kidIds
  split
  · rename_i h
    rw [List.length_map]
    exact Nat.le_trans (kids_len l x) ((treeR_iff l).1 h).1
  · simp
/-- Numbers that are looked at alone, all of them below N. -/
structure ILies (N : Nat) (c : World) (ao : Option Addr) (xs : List Int) : Prop where
  at_ : IntsAt c ao xs
  low : ∀ j (hj : j < xs.length) a, ao = some a → a.block < N
theorem ILies.of {c : World} {ao : Option Addr} {xs : List Int} (h : IntsAt c ao xs) : ILies c.heap.size c ao xs :=
  ⟨h, fun j hj a ha => by obtain ⟨b, off, e, hlt, _⟩ := h j hj; rw [ha] at e; cases e; exact hlt⟩
theorem ILies.step {N : Nat} {c c' : World} {ao : Option Addr} {xs : List Int} (h : ILies N c ao xs) (hb : Below c.heap.size c c') : ILies N c' ao xs := ⟨h.at_.stays hb, h.low⟩
theorem ILies.twixt {N base top : Nat} {c c' : World} {ao : Option Addr} {xs : List Int} (h : ILies N c ao xs) (ht : Twixt base top c c') (hN : N ≤ base) : ILies N c' ao xs := by
  refine ⟨fun j hj => ?_, h.low⟩
  obtain ⟨b, off, e, hlt, ho⟩ := h.at_ j hj
  have hbN : b < N := h.low j hj _ e
  exact ⟨b, off, e, Nat.lt_of_lt_of_le hlt ht.size, by simpa only [World.cell?, ht.block b hlt (.inl (by omega))] using ho⟩
theorem IntRow.twixt {w w' : World} {b base top : Nat} {v : Value} {xs : List Int} (h : IntRow w b v xs) (ht : Twixt base top w w') (hb : top ≤ b) : IntRow w' b v xs := owns_keeps h (fun g hg hl => ht.block g hl (.inr (by omega)))
theorem IntRow.ints {w : World} {base cap : Nat} {ao : Option Addr} {xs : List Int} (h : IntRow w base (.slice ao xs.length cap) xs) : IntsAt w ao xs := by
  obtain ⟨a', c', e2, _, hI'⟩ := h.at
  simp only [Value.slice.injEq] at e2
  obtain ⟨rfl, _, _⟩ := e2
  exact hI'
set_option maxRecDepth 100000 in
set_option maxHeartbeats 2000000 in
theorem law_children (w : World) (ao : Option Addr) (cap : Nat) (l : List NodG) (x : Int) (hC : CameTree w ao l) (hx : (Lit.int .i64 x).wf = true) :
    Calls Try.prog 3 #[.agg #[.slice ao l.length cap], .int .i64 x] w fun e w' => e = .returned (.bool true) ∧ Below w.heap.size w w' := by
  obtain ⟨hl, hA, hS, hG⟩ := hC
  have hsz := fun W (hW : Below w.heap.size w W) => szTree_any l ao cap W hl (hA.stays hW) hS
  have HSZ := hide hsz
  have HA := hide hA
  have HG := hide hG
  have HV0 : Hid (St w (w.alloc (.cells #[.slice ao l.length cap] 24)) [(w.heap.size, Obj.cells #[.slice ao l.length cap] 24)]) := ⟨(St.bare (Below.refl w.heap.size w)).new (.cells #[.slice ao l.length cap] 24)⟩
  obtain ⟨ks, hks⟩ : ∃ ks, kidIds l x = ks := ⟨_, rfl⟩
  have hkl : ks.length ≤ 150 := by rw [← hks]; exact kidIds_len l x
  have HKs := hide hks
  clear hsz hA hS hG hl hx hks
  go_enter Try.func3, Try.ntmps3
  go_wp2_with (first | (go_at_call 7; refine (HSZ.out _ HV0.out.below).mono ?_; rintro e w1 ⟨m, rfl, hm0, hm1, hm2, hb1⟩; have HM := hide hm2; have HV1 := hide (HV0.out.step hb1); have hc := HV1.out.one (b := w.heap.size) (v := .slice ao l.length cap) (T := 24) (by simp); clear hm2 hb1))
  · go_ret
    exact ⟨rfl, HV1.out.below⟩
  obtain ⟨hl2, hs2⟩ := HM.out (by omega)
  have HS2 := hide hs2
  have Hl2 := hide hl2
  have HZl : Hid (SzT l) := ⟨⟨hl2, fun n hn => (hs2 n hn).2.1⟩⟩
  have hw1 := HV1.out.lt (p := (w.heap.size, Obj.cells #[.slice ao l.length cap] 24)) (by simp)
  clear HM hs2
  have m1 : Hid True := ⟨trivial⟩
  have m2 : Hid True := ⟨trivial⟩
  have e1 : Hid True := ⟨trivial⟩
  go_wp2_with (first | (go_at_call 9; clear m1; refine (toTree_any l ao cap w1 Hl2.out (HA.out.stays HV1.out.below) HZl.out.2).mono ?_; rintro e w2 ⟨d2, g2, rfl, hx2, hbr2, hb2⟩; have HV2 := hide (HV1.out.step hb2); have h3 := sChildren_any d2 _ d2.length x w2 (by rw [bare_len hbr2]; exact Hl2.out) hx2.nodesAt (sized_alike hbr2 HS2.out); rw [kidIds_alike hbr2, HKs.out] at h3; have H3 := hide h3; have hz2 := hb2.size; clear hx2 hbr2 hb2 h3 hc) | (go_at_call 8; refine H3.out.mono ?_; rintro e w3 ⟨v3, rfl, hI3, hb3⟩; obtain ⟨a3, c3, rfl, _, hA3⟩ := hI3.at; have HV3 := hide (HV2.out.step hb3); have HW3 := hide (ILies.of hA3); have hc := HV3.out.one (b := w.heap.size) (v := .slice ao l.length cap) (T := 24) (by simp); have hz3 := hb3.size; clear hI3 hA3 hb3 H3) | (go_at_call 9; clear m2; refine (toTree_any l ao cap w3 Hl2.out (HA.out.stays HV3.out.below) HZl.out.2).mono ?_; rintro e x1 ⟨d4, g4, rfl, hx4, hbr4, hb4⟩; have HV4 := hide ((HV3.out.step hb4).new (.cells #[.slice (some ⟨g4, 0, none⟩) d4.length d4.length] 30)); have HW4 := hide ((HW3.out.step hb4).step ((Below.refl _ _).alloc (Nat.le_refl _) (.cells #[.slice (some ⟨g4, 0, none⟩) d4.length d4.length] 30))); have HX4 := hide (hx4.stays ((Below.refl _ _).alloc (Nat.le_refl _) (.cells #[.slice (some ⟨g4, 0, none⟩) d4.length d4.length] 30))); have HU4 := hide hx4.under; have HBr4 := hide hbr4; have hz4 := hb4.size; have h5 := iChildren_any d4 _ d4.length x (x1.alloc (.cells #[.slice (some ⟨g4, 0, none⟩) d4.length d4.length] 30)) (by rw [bare_len hbr4]; exact Hl2.out) (rng_alike hbr4 HG.out) (hx4.stays ((Below.refl _ _).alloc (Nat.le_refl _) (.cells #[.slice (some ⟨g4, 0, none⟩) d4.length d4.length] 30))).nodesAt (sized_alike hbr4 HS2.out); rw [kidIds_alike hbr4, HKs.out] at h5; have H5 := hide h5; clear hx4 hbr4 hb4 h5 hc) | (go_at_call 10; refine H5.out.mono ?_; rintro e w5 ⟨v5, rfl, hI5, hb5⟩; obtain ⟨a5, c5, rfl, hr5, _⟩ := hI5.at; have HV5 := hide (HV4.out.step hb5); have HW5 := hide (HW4.out.step hb5); have HX5 := hide (HX4.out.stays hb5); have HI5 : Hid (IntRow w5 (x1.heap.size + 1) (.slice a5 ks.length c5) ks) := ⟨by simpa using hI5⟩; have hz5 := hb5.size; clear hI5 hb5 H5) | (go_at_call 11; clear e1; refine (eqInt64S_same ks a5 a3 c5 c3 w5 (by unfold maxLen; omega) HI5.out.ints HW5.out.at_).mono ?_; rintro e w6 ⟨rfl, hb6⟩; have HV6 := hide (HV5.out.step hb6); have HW6 := hide (HW5.out.step hb6); have HX6 := hide (HX5.out.stays hb6); have HI6 := hide (HI5.out.stays hb6); have hz6 := hb6.size; clear hb6))
  have hx0 : ∀ W, St w W [(x1.heap.size, Obj.cells #[.slice (some ⟨g4, 0, none⟩) d4.length d4.length] 30), (w.heap.size, Obj.cells #[.slice ao l.length cap] 24)] → W.cell? ⟨x1.heap.size, 0, none⟩ = some (.slice (some ⟨g4, 0, none⟩) d4.length d4.length) ∧ W.cell? ⟨w.heap.size, 0, none⟩ = some (.slice ao l.length cap) := fun W hW => ⟨hW.one (b := x1.heap.size) (v := .slice (some ⟨g4, 0, none⟩) d4.length d4.length) (T := 30) (by simp), hW.one (b := w.heap.size) (v := .slice ao l.length cap) (T := 24) (by simp)⟩
  have HX0 := hide hx0
  have hd0 := HX0.out _ HV6.out.drew
  clear hx0
  go_region_held3 (fun W => W.cell? ⟨x1.heap.size, 0, none⟩ = some (.slice (some ⟨g4, 0, none⟩) d4.length d4.length) ∧ W.cell? ⟨w.heap.size, 0, none⟩ = some (.slice ao l.length cap)) (first | with_reducible exact hd0 | with_reducible exact hd1 | with_reducible exact hd2) (first | (go_at_call 9; refine (toTree_any l ao cap _ Hl2.out (HA.out.stays HV6.out.drew.below) HZl.out.2).mono ?_; rintro e w7 ⟨d7, g7, rfl, hx7, hbr7, hb7⟩; have HV7 := hide (HV6.out.drew.step hb7); have HW7 := hide (HW6.out.step (drewB hb7)); have HI7 := hide (HI6.out.stays (drewB hb7)); have HX7 := hide (HX6.out.stays (drewB hb7)); have HY7 := hide hx7; have HBr7 := hide hbr7; have hd1 := HX0.out _ HV7.out; clear hx7 hbr7 hb7) | (go_at_call 12; refine (eqTree_same d4 d7 _ _ _ _ w7 (HBr7.out.trans HBr4.out.symm) (by rw [bare_len HBr4.out]; have := Hl2.out; unfold maxLen; omega) (fun n hn => (by have := (sized_alike HBr4.out HS2.out n hn).2.1; unfold maxLen; omega)) HX7.out.nodesAt HY7.out.nodesAt).mono ?_; rintro e w8 ⟨rfl, hb8⟩; have HV8 := hide (HV7.out.step hb8); have HW8 := hide (HW7.out.step hb8); have HI8 := hide (HI7.out.stays hb8); have HX8 := hide (HX7.out.stays hb8); have hd2 := HX0.out _ HV8.out; clear hb8))
  have q0 := HV8.out.one (b := x1.heap.size) (v := .slice (some ⟨g4, 0, none⟩) d4.length d4.length) (T := 30) (by simp)
  have HZ4 := hide (HZl.out.alike HBr4.out)
  have hK1 : endN 1 d4 ≤ 2200000000000 := by have := endN_le 1 d4 HZ4.out.2; have := HZ4.out.1; omega
  have hK0 : ¬ ((endN 1 d4 : Nat) : Int) < 0 := by omega
  have E2 : Hid True := ⟨trivial⟩
  have Q1 : Hid True := ⟨trivial⟩
  clear hd0 hd1 hd2
  go_wp2_with (first | (go_at_call 13; refine (markTree_any d4 (some ⟨g4, 0, none⟩) d4.length w3.heap.size x1.heap.size 1 w8 HZ4.out.1 HZ4.out.2 (by omega) (by omega) HX8.out HU4.out).mono ?_; rintro e w9 ⟨rfl, _, hg9⟩; have HTw := hide hg9; have HV9 := hide (HV8.out.twixt HTw.out (by omega) (by simp; omega)); have HW9 := hide (HW8.out.twixt HTw.out (Nat.le_refl _)); have HI9 := hide (HI8.out.twixt HTw.out (by omega)); clear hg9 q0) | (go_at_call 11; clear E2; refine (eqInt64S_same ks a5 a3 c5 c3 w9 (by unfold maxLen; omega) HI9.out.ints HW9.out.at_).mono ?_; rintro e w10 ⟨rfl, hb10⟩; have HV10 := hide (HV9.out.step hb10); have HW10 := hide (HW9.out.step hb10); have HI10 := hide (HI9.out.stays hb10); clear hb10) | (go_at_call 14; have hmk := markInt64S_any ks a5 c5 (x1.heap.size + 1) 1 w10 (by omega) (by omega) HI10.out; refine hmk.mono ?_; rintro e w11 ⟨rfl, hA11, hg11⟩; have HTw2 := hide (Twixt.grown (base := x1.heap.size + 1) (top := w10.heap.size) hg11 (fun g e => World.ownsRow.lt HI10.out g e)); have HV11 := hide (HV10.out.twixt HTw2.out (by omega) (by simp; omega)); have HW11 := hide (HW10.out.twixt HTw2.out (by omega)); have HA11 := hide hA11; clear hmk hA11 hg11) | (go_at_call 15; clear Q1; refine (heldInt64S_any ks.length 1 c5 a5 w11 (by omega) (by omega) HA11.out).mono ?_; rintro e w12 ⟨rfl, hb12⟩; have HV12 := hide (HV11.out.step hb12); have HW12 := hide (HW11.out.step hb12); have HA12 := hide (HA11.out.stays hb12); have hc := HV12.out.one (b := w.heap.size) (v := .slice ao l.length cap) (T := 24) (by simp); clear hb12) | (go_at_call 9; refine (toTree_any l ao cap w12 Hl2.out (HA.out.stays HV12.out.below) HZl.out.2).mono ?_; rintro e w13 ⟨d13, g13, rfl, hx13, hbr13, hb13⟩; have HV13 := hide (HV12.out.step hb13); have HW13 := hide (HW12.out.step hb13); have HA13 := hide (HA12.out.stays hb13); have h13 := iChildren_any d13 _ d13.length x w13 (by rw [bare_len hbr13]; exact Hl2.out) (rng_alike hbr13 HG.out) hx13.nodesAt (sized_alike hbr13 HS2.out); rw [kidIds_alike hbr13, HKs.out] at h13; have H13 := hide h13; clear hx13 hbr13 hb13 h13 hc) | (go_at_call 10; refine H13.out.mono ?_; rintro e w14 ⟨v14, rfl, hI14, hb14⟩; obtain ⟨a14, c14, rfl, _, hA14⟩ := hI14.at; have HV14 := hide (HV13.out.step hb14); have HW14 := hide (HW13.out.step hb14); have HA14 := hide (HA13.out.stays hb14); have HB14 := hide hA14; clear hI14 hA14 hb14 H13) | (go_at_call 11; refine (eqInt64S_same ks a14 a3 c14 c3 w14 (by unfold maxLen; omega) HB14.out HW14.out.at_).mono ?_; rintro e w15 ⟨rfl, hb15⟩; have HV15 := hide (HV14.out.step hb15); have HA15 := hide (HA14.out.stays hb15); clear hb15) | (go_at_call 15; refine (heldInt64S_any ks.length 1 c5 a5 w15 (by omega) (by omega) HA15.out).mono ?_; rintro e w16 ⟨rfl, hb16⟩; have HV16 := hide (HV15.out.step hb16); clear hb16))
  go_ret
  exact ⟨rfl, HV16.out.below⟩
end Go.Proofs.Ytcpgkalafkhlgaf.OpR
