/- Proves the walk of the law FnExactDownload. -/
import Derived.Test.YtkfjommoogmehaaSrvF
namespace Go.Proofs.Ytkfjommoogmehaa.OpR
open Go.ChangeShapes Go.WideShapes Go.ChangeAt Go.RowKit
set_option linter.unusedVariables false

theorem row2 {B g h : Nat} (h1 : B ≤ g) (h2 : B ≤ h) : ∀ b ∈ [some (⟨g, 0, none⟩ : Addr), some ⟨h, 0, none⟩], ∀ a, b = some a → B ≤ a.block := fun b hb a e => by
  rcases List.mem_cons.1 hb with rfl | hb
  · cases e; exact h1
  obtain rfl := List.mem_singleton.1 hb
  cases e; exact h2
theorem row2_lt {B g h : Nat} (h1 : g < B) (h2 : h < B) : ∀ b ∈ [some (⟨g, 0, none⟩ : Addr), some ⟨h, 0, none⟩], ∀ a, b = some a → a.block < B := fun b hb a e => by
  rcases List.mem_cons.1 hb with rfl | hb
  · cases e; exact h1
  obtain rfl := List.mem_singleton.1 hb
  cases e; exact h2
theorem dlRes_len {s : SrvV} (hz : SSz 1048576 s) (fr most : Int) : (dlRes s fr most).srv.ops.length ≤ 1048576 ∧ (dlRes s fr most).srv.seen.length ≤ 1048576 ∧ (dlRes s fr most).ops.length ≤ 1048576 := by
  unfold dlRes
  split
  · exact ⟨Nat.zero_le _, Nat.zero_le _, Nat.zero_le _⟩
  · refine ⟨Nat.zero_le _, Nat.zero_le _, ?_⟩
    have := hz.ops
    show (dlOps s fr most).length ≤ _
    unfold dlOps
    rw [List.length_take, List.length_drop]
    omega
set_option maxRecDepth 100000 in
set_option maxHeartbeats 4000000 in
theorem law_download (w : World) (la : Option Addr) (lc : Nat) (sa : Option Addr) (sc : Nat) (s : SrvV) (fr most : Int) (hC : CameSv w la sa s) (hf1 : (Lit.int IntKind.i64 fr).wf = true) (hf2 : (Lit.int IntKind.i64 most).wf = true) :
    Calls Try.prog 5 #[s.agg la lc sa sc, .int .i64 fr, .int .i64 most] w fun e w' => e = .returned (.bool true) ∧ Below w.heap.size w w' := by
  clear hf1 hf2
  have hsz := fun W (hW : Below w.heap.size w W) => szServer_any s la sa lc sc W hC.sz (hC.ops.stays hW)
  have hto := fun W (hz : SSz 1048576 s) (hW : Below w.heap.size w W) => toServer_any s la sa lc sc W hz (hC.ops.stays hW) (hC.seen.stays hW)
  have hsp := fun b off lc sa sc W (hz : SSz 1048576 s) hlc h1 h2 => sDl_any s b off lc sa sc fr most W hz hlc h1 h2
  have him := fun b off lc sa sc W (hz : SSz 1048576 s) hlc h1 h2 => iDl_any s b off lc sa sc fr most W hz hlc h1 h2
  have hlen := fun (hz : SSz 1048576 s) => dlRes_len hz fr most
  obtain ⟨x, hx⟩ : ∃ x, x = dlRes s fr most := ⟨_, rfl⟩
  rw [← hx] at hlen
  simp only [← hx] at hsp him
  have heq := fun la sa lb sb lc sc ld sd W (hz : SSz 1048576 s) h1 h2 h3 h4 => eqServer_same s la sa lb sb lc sc ld sd W hC.sz.ops hC.sz.seen h1 h2 h3 h4
  have heo := fun la sa oa lb sb ob lc sc oc ld sd od W (hz : SSz 1048576 s) h1 h2 h3 h4 h5 h6 => eqServerOut_same x la sa oa lb sb ob lc sc oc ld sd od W (Nat.le_trans (hlen hz).1 (by unfold maxLen; omega)) (Nat.le_trans (hlen hz).2.1 (by unfold maxLen; omega)) (Nat.le_trans (hlen hz).2.2 (by unfold maxLen; omega)) h1 h2 h3 h4 h5 h6
  have hms := fun la sa lc sc W (hz : SSz 1048576 s) h1 => markServer_any s la sa lc sc 1 W hz.ops hz.seen (by omega) (by omega) h1
  have hmo := fun la sa oa lc sc oc W (hz : SSz 1048576 s) h1 => markServerOut_any x la sa oa lc sc oc W (hlen hz).1 (hlen hz).2.1 (hlen hz).2.2 h1
  have hho := fun la sa oa lc sc oc W (hz : SSz 1048576 s) h1 h2 h3 => heldServerOut_any x la sa oa lc sc oc W (hlen hz).1 (hlen hz).2.1 (hlen hz).2.2 h1 h2 h3
  rw [show ((1 : Nat) : Int) = 1 from rfl] at hms
  obtain ⟨KC, hKC⟩ : ∃ K : Nat, K = 1 + 7 * s.ops.length + 2 * s.seen.length := ⟨_, rfl⟩
  obtain ⟨KX, hKX⟩ : ∃ K : Nat, K = 1 + 7 * x.srv.ops.length + 2 * x.srv.seen.length + 7 * x.ops.length := ⟨_, rfl⟩
  rw [← hKC] at hms
  rw [← hKX] at hmo hho
  have hneg1 : ¬ ((KC : Int) < 0) := by omega
  have hneg2 : ¬ ((KX : Int) < 0) := by omega
  have HB0 := hide (SL.new w s la lc sa sc)
  unfold SrvV.agg at *
  unfold SOutV.agg at heo hmo hho
  have HSZ := hide hsz
  have HTO := hide hto
  have HSP := hide hsp
  have HIM := hide him
  have HEQ := hide heq
  have HEO := hide heo
  have HMS := hide hms
  have HMO := hide hmo
  have HHO := hide hho
  clear hsz hto hsp him heq heo hms hmo hho hx hlen hKC hKX hC
  obtain ⟨p0, p1⟩ := HB0.out.cells
  have M1 : Hid True := ⟨trivial⟩
  have M2 : Hid True := ⟨trivial⟩
  have M3 : Hid True := ⟨trivial⟩
  have M4 : Hid True := ⟨trivial⟩
  go_enter Try.func5, Try.ntmps5
  go_wp2_with (first | (go_at_call 6; (refine (HSZ.out _ HB0.out.below).mono ?_); rintro e w1 ⟨m, rfl, hm, hq, hb1⟩; have HQ := hide hq; have HB1 := hide (HB0.out.step hb1); clear p0 p1 hb1 hq; obtain ⟨p0, p1⟩ := HB1.out.cells) | (go_at_call 8; clear M1; have HQ1 := hide (HQ.out (by omega)); (refine (HTO.out _ HQ1.out HB1.out.below).mono ?_); rintro e w2 ⟨g1, g2, rfl, hx, hy, _, _, hb2⟩; have HX2 := hide hx.opsAt; have HY2 := hide hy.seensAt; have HB2 := hide (HB1.out.step hb2); clear p0 p1 hb2 hx hy HQ; obtain ⟨p0, p1⟩ := HB2.out.cells) | (go_at_call 21; (refine (HSP.out _ _ _ _ _ _ HQ1.out (Nat.le_refl _) HX2.out HY2.out).mono ?_); intro e w3 h3; obtain ⟨sl, slc, ss, ssc, so, soc, he, hL, hE, hO, hb3⟩ := h3; unfold SOutV.agg at he; subst he; have HN3 := hide (NO.new (slc := slc) (ssc := ssc) (soc := soc) (HB2.out.step hb3) hL hE hO); clear p0 p1 hb3 HX2 HY2 hL hE hO; obtain ⟨p0, p1⟩ := HN3.out.p) | (go_at_call 8; clear M2; (refine (HTO.out _ HQ1.out HN3.out.below).mono ?_); rintro e w4 ⟨g3, g4, rfl, hx, hy, hl3, hl4, hb4⟩; have HX4 := hide hx; have HY4 := hide hy; have HN4 := hide (HN3.out.step hb4); have HL4 := hide (And.intro hl3 hl4); clear p0 p1 hb4 hx hy hl3 hl4; obtain ⟨p0, p1⟩ := HN4.out.p) | (go_at_call 22; clear M3; have hx0 := SB.new w4 s (some ⟨g3, 0, none⟩) s.ops.length (some ⟨g4, 0, none⟩) s.seen.length; have HX5 := hide (HX4.out.stays hx0.below); have HY5 := hide (HY4.out.stays hx0.below); have HN5 := hide (HN4.out.step hx0.below); (refine (HIM.out _ _ _ _ _ _ HQ1.out (Nat.le_refl _) HX5.out.opsAt HY5.out.seensAt).mono ?_); intro e w6 h6; obtain ⟨gl, glc, gs, gsc, go, goc, he, hL, hE, hO, hM, hbl, hbs, hbo, hb6⟩ := h6; unfold SOutV.agg at he; subst he; have HG6 := hide (GO.new (glc := glc) (gsc := gsc) (goc := goc) hL hE hO hM hbl hbs hbo hb6.size); have hbg : Below w6.heap.size w6 (w6.alloc (.cells #[.slice gl x.srv.ops.length glc, .slice gs x.srv.seen.length gsc, .slice go x.ops.length goc, .int .i64 x.many, .int .i64 x.code] 37)) := (Below.refl w6.heap.size w6).alloc (Nat.le_refl _) _; have HXV := hide ((hx0.step hb6).step hbg); have HX6 := hide ((HX5.out.stays hb6).stays hbg); have HY6 := hide ((HY5.out.stays hb6).stays hbg); have HN6 := hide ((HN5.out.step hb6).step hbg); have HZ4 := hide (And.intro HX4.out.lt HY4.out.lt); clear p0 p1 hb6 hbg hL hE hO hM hbl hbs hbo hx0 HX4 HY4 HX5 HY5; obtain ⟨p0, p1⟩ := HN6.out.p; obtain ⟨q0, q1⟩ := HXV.out.cells; obtain ⟨r0, r1, r2, r3, r4⟩ := HG6.out.cells; obtain ⟨s0, s1, s2, s3, s4⟩ := HN6.out.q) | (go_at_call 15; clear M4; (refine (HEO.out _ _ _ _ _ _ _ _ _ _ _ _ _ HQ1.out HG6.out.ops HG6.out.seen HG6.out.out HN6.out.ops HN6.out.seen HN6.out.out).mono ?_); rintro e w7 ⟨rfl, hb7⟩; have HG7 := hide (HG6.out.step hb7); have HN7 := hide (HN6.out.step hb7); have HXV7 := hide (HXV.out.step hb7); have HX7 := hide (HX6.out.stays hb7); have HY7 := hide (HY6.out.stays hb7); clear p0 p1 q0 q1 r0 r1 r2 r3 r4 s0 s1 s2 s3 s4 hb7; obtain ⟨p0, p1⟩ := HN7.out.p; obtain ⟨q0, q1⟩ := HXV7.out.cells; obtain ⟨r0, r1, r2, r3, r4⟩ := HG7.out.cells; obtain ⟨s0, s1, s2, s3, s4⟩ := HN7.out.q) | fail)
  · go_ret
    exact ⟨rfl, HB1.out.below⟩
  go_region_with (first | (go_at_call 8; (refine (HTO.out _ HQ1.out HN7.out.below.drew).mono ?_); rintro e w8 ⟨g7, g8, rfl, hx, hy, _, _, hb8⟩; have HX8 := hide hx.opsAt; have HY8 := hide hy.seensAt; have hq8 : Below w7.heap.size w7 w8 := ((Below.refl _ w7).drew).trans (hb8.mono (Nat.le_refl _)); have HN8 := hide (HN7.out.step hq8); have HXV8 := hide (HXV7.out.step hq8); have HXX8 := hide (HX7.out.stays hq8); have HYY8 := hide (HY7.out.stays hq8); have HG8 := hide (HG7.out.step hq8); obtain ⟨q0, q1⟩ := HXV8.out.cells; clear hb8 hq8 hx hy) | (go_at_call 10; (refine (HEQ.out _ _ _ _ _ _ _ _ _ HQ1.out HXX8.out.opsAt HYY8.out.seensAt HX8.out HY8.out).mono ?_); rintro e w9 ⟨rfl, hb9⟩; have HN9 := hide (HN8.out.step hb9); have HXV9 := hide (HXV8.out.step hb9); have HX9 := hide (HXX8.out.stays hb9); have HY9 := hide (HYY8.out.stays hb9); have HG9 := hide (HG8.out.step hb9); clear hb9) | fail)
  all_goals as_aux_lemma =>
    clear p0 p1 q0 q1 r0 r1 r2 r3 r4 s0 s1 s2 s3 s4
    obtain ⟨p0, p1⟩ := HN9.out.p
    obtain ⟨q0, q1⟩ := HXV9.out.cells
    obtain ⟨r0, r1, r2, r3, r4⟩ := HG9.out.cells
    obtain ⟨s0, s1, s2, s3, s4⟩ := HN9.out.q
    have M5 : Hid True := ⟨trivial⟩
    have M6 : Hid True := ⟨trivial⟩
    go_wp2_with (first | (go_at_call 17; (refine (HMS.out _ _ _ _ _ HQ1.out (mark_sv HX9.out HY9.out HL4.out.2)).mono ?_); rintro e w10 ⟨rfl, _, _, hm⟩; have hl := HL4.out; have hz := HZ4.out; have hn := NO.lt HN4.out; have HN10 := hide (HN9.out.marked hm (row2 hl.1 (Nat.le_of_lt (Nat.lt_of_le_of_lt hl.1 hl.2)))); have HG10 := hide (HG9.out.marked hm (row2_lt (Nat.lt_of_lt_of_le hz.1 (base_alloc _ _)) (Nat.lt_of_lt_of_le hz.2 (base_alloc _ _)))); clear hm hl hz hn p0 p1 q0 q1 r0 r1 r2 r3 r4 s0 s1 s2 s3 s4; obtain ⟨p0, p1⟩ := HN10.out.p; obtain ⟨r0, r1, r2, r3, r4⟩ := HG10.out.cells; obtain ⟨s0, s1, s2, s3, s4⟩ := HN10.out.q) | (go_at_call 15; clear M5; (refine (HEO.out _ _ _ _ _ _ _ _ _ _ _ _ _ HQ1.out HG10.out.ops HG10.out.seen HG10.out.out HN10.out.ops HN10.out.seen HN10.out.out).mono ?_); rintro e w11 ⟨rfl, hb11⟩; have HG11 := hide (HG10.out.step hb11); have HN11 := hide (HN10.out.step hb11); clear hb11 p0 p1 r0 r1 r2 r3 r4 s0 s1 s2 s3 s4; obtain ⟨p0, p1⟩ := HN11.out.p; obtain ⟨r0, r1, r2, r3, r4⟩ := HG11.out.cells; obtain ⟨s0, s1, s2, s3, s4⟩ := HN11.out.q) | (go_at_call 19; (refine (HMO.out _ _ _ _ _ _ _ HQ1.out HG11.out.mrk).mono ?_); rintro e w12 ⟨rfl, hx, hy, hz, hm⟩; have HM12 := hide (HG11.out.own hm hx hy hz); have HN12 := hide (HN11.out.marked hm (fun b hb a e => Nat.le_trans HN5.out.lt (HG11.out.ne b hb a e).1)); clear hm hx hy hz p0 p1 r0 r1 r2 r3 r4 s0 s1 s2 s3 s4; obtain ⟨p0, p1⟩ := HN12.out.p; obtain ⟨r0, r1, r2, r3, r4⟩ := HM12.out.cells; obtain ⟨s0, s1, s2, s3, s4⟩ := HN12.out.q) | (go_at_call 20; clear M6; (refine (HHO.out _ _ _ _ _ _ _ HQ1.out HM12.out.ops HM12.out.seen HM12.out.out).mono ?_); rintro e w13 ⟨rfl, hb13⟩; have HM13 := hide (HM12.out.step hb13); have HN13 := hide (HN12.out.step hb13); clear hb13 p0 p1 r0 r1 r2 r3 r4 s0 s1 s2 s3 s4; obtain ⟨p0, p1⟩ := HN13.out.p; obtain ⟨r0, r1, r2, r3, r4⟩ := HM13.out.cells; obtain ⟨s0, s1, s2, s3, s4⟩ := HN13.out.q) | fail)
    all_goals (try (exfalso; omega))
    all_goals as_aux_lemma =>
      go_wp2_with (first | (go_at_call 8; (refine (HTO.out _ HQ1.out HN13.out.below).mono ?_); rintro e w14 ⟨g9, g10, rfl, hx, hy, _, _, hb14⟩; have HX14 := hide hx.opsAt; have HY14 := hide hy.seensAt; have HM14 := hide (HM13.out.step hb14); have HN14 := hide (HN13.out.step hb14); clear hb14 hx hy p0 p1 r0 r1 r2 r3 r4 s0 s1 s2 s3 s4; obtain ⟨p0, p1⟩ := HN14.out.p; obtain ⟨r0, r1, r2, r3, r4⟩ := HM14.out.cells; obtain ⟨s0, s1, s2, s3, s4⟩ := HN14.out.q) | (go_at_call 22; (refine (HIM.out _ _ _ _ _ _ HQ1.out (Nat.le_refl _) HX14.out HY14.out).mono ?_); intro e w15 h15; obtain ⟨hl, hlc, hs, hsc, ho, hoc, he, hL, hE, hO, _, _, _, _, hb15⟩ := h15; unfold SOutV.agg at he; subst he; have hbg : Below w15.heap.size w15 (w15.alloc (.cells #[.slice hl x.srv.ops.length hlc, .slice hs x.srv.seen.length hsc, .slice ho x.ops.length hoc, .int .i64 x.many, .int .i64 x.code] 37)) := (Below.refl w15.heap.size w15).alloc (Nat.le_refl _) _; have HH15 := hide (Fiv.new w15 x hl hlc hs hsc ho hoc); have HHL := hide (hL.stays hbg); have HHE := hide (hE.stays hbg); have HHO' := hide (hO.stays hbg); have HM15 := hide ((HM14.out.step hb15).step hbg); have HN15 := hide ((HN14.out.step hb15).step hbg); clear hb15 hbg hL hE hO p0 p1 r0 r1 r2 r3 r4 s0 s1 s2 s3 s4; obtain ⟨q0, q1, q2, q3, q4⟩ := HH15.out.cells; obtain ⟨p0, p1⟩ := HN15.out.p; obtain ⟨r0, r1, r2, r3, r4⟩ := HM15.out.cells; obtain ⟨s0, s1, s2, s3, s4⟩ := HN15.out.q) | (go_at_call 15; (refine (HEO.out _ _ _ _ _ _ _ _ _ _ _ _ _ HQ1.out HHL.out HHE.out HHO'.out HN15.out.ops HN15.out.seen HN15.out.out).mono ?_); rintro e w16 ⟨rfl, hb16⟩; have HM16 := hide (HM15.out.step hb16); have HN16 := hide (HN15.out.step hb16); clear hb16 p0 p1 r0 r1 r2 r3 r4 s0 s1 s2 s3 s4 q0 q1 q2 q3 q4; obtain ⟨r0, r1, r2, r3, r4⟩ := HM16.out.cells) | (go_at_call 20; (refine (HHO.out _ _ _ _ _ _ _ HQ1.out HM16.out.ops HM16.out.seen HM16.out.out).mono ?_); rintro e w17 ⟨rfl, hb17⟩; have HN17 := hide (HN16.out.step hb17); clear hb17) | fail)
      all_goals (try (exfalso; omega))
      all_goals (
        go_ret
        exact ⟨rfl, HN17.out.below⟩)
end Go.Proofs.Ytkfjommoogmehaa.OpR
