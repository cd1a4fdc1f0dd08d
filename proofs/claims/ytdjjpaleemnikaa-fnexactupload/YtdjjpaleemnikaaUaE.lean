/- Proves the walk of the law FnExactUpload. -/
import Derived.Test.YtdjjpaleemnikaaUaA
import Derived.Test.YtdjjpaleemnikaaUaD
import Derived.Test.YtdjjpaleemnikaaSzW
namespace Go.Proofs.Ytdjjpaleemnikaa.OpR
open Go.ChangeShapes Go.WideShapes Go.ChangeAt Go.RowKit
set_option linter.unusedVariables false

theorem row2 {B g h : Nat} (h1 : B ≤ g) (h2 : B ≤ h) : ∀ b ∈ [some (⟨g, 0, none⟩ : Addr), some ⟨h, 0, none⟩], ∀ a, b = some a → B ≤ a.block := fun b hb a e => by
  rcases List.mem_cons.1 hb with rfl | hb
  · cases e; exact h1
  obtain rfl := List.mem_singleton.1 hb
  cases e; exact h2
theorem row2_lt {B g h : Nat} (h1 : g < B) (h2 : h < B) : ∀ b ∈ [some (⟨g, 0, none⟩ : Addr), some ⟨h, 0, none⟩], ∀ a, b = some a → a.block < B := fun b hb a e => by
  rcases List.mem_cons.1 hb with rfl | hb
  · cases e; exact h1
  obtain rfl := List.mem_singleton.1 hb
  cases e; exact h2
theorem row2_ne {B g h : Nat} (h1 : B ≠ g) (h2 : B ≠ h) : ∀ b ∈ [some (⟨g, 0, none⟩ : Addr), some ⟨h, 0, none⟩], ∀ a, b = some a → B ≠ a.block := fun b hb a e => by
  rcases List.mem_cons.1 hb with rfl | hb
  · cases e; exact h1
  obtain rfl := List.mem_singleton.1 hb
  cases e; exact h2
theorem row1 {B g : Nat} (h1 : B ≤ g) : ∀ b ∈ [some (⟨g, 0, none⟩ : Addr)], ∀ a, b = some a → B ≤ a.block := fun b hb a e => by
  obtain rfl := List.mem_singleton.1 hb
  cases e; exact h1
theorem row1_lt {B g : Nat} (h1 : g < B) : ∀ b ∈ [some (⟨g, 0, none⟩ : Addr)], ∀ a, b = some a → a.block < B := fun b hb a e => by
  obtain rfl := List.mem_singleton.1 hb
  cases e; exact h1
theorem seenL_len (m : List (Int × SgtV)) : (seenL m).length = m.length := by simp [seenL]
theorem upRes_len (s : SrvV) (r fr : Int) (l : List OpV) : (upRes s r fr l).srv.ops.length ≤ 1048576 ∧ (upRes s r fr l).srv.seen.length ≤ 1048576 ∧ (upRes s r fr l).ops.length ≤ 1048576 := by
  have h0 : ∀ many code, (SOutV.ill many code).srv.ops.length ≤ 1048576 ∧ (SOutV.ill many code).srv.seen.length ≤ 1048576 ∧ (SOutV.ill many code).ops.length ≤ 1048576 := fun _ _ => ⟨Nat.zero_le _, Nat.zero_le _, Nat.zero_le _⟩
  by_cases h1 : 400 < l.length
  · rw [show upRes s r fr l = SOutV.ill 0 2 by unfold upRes; rw [if_pos h1]]; exact h0 _ _
  cases hall : (srvRight s && sentR r fr l)
  · rw [upRes_no h1 hall]; exact h0 _ _
  rw [Bool.and_eq_true] at hall
  have hS := (srv_iff s).1 hall.1
  obtain ⟨m, hgo, hI, _⟩ := hS.inv
  have hF := inv_few ((ops_iff _).2 hS.ops) hgo hI
  rw [upRes_yes h1 hall.1 hall.2 hgo]
  unfold upTold
  split
  · exact h0 _ _
  split
  · exact h0 _ _
  split
  · exact h0 _ _
  · rename_i h2
    have hp := (putAll_few (freshOps (sgOf m r).many fr l) hF).1
    refine ⟨?_, ?_, Nat.zero_le _⟩
    · show (s.ops ++ freshOps (sgOf m r).many fr l).length ≤ _
      rw [List.length_append]; omega
    · show (seenL (putAll m (freshOps (sgOf m r).many fr l))).length ≤ _
      rw [seenL_len]; omega
theorem markRowL_any (l : List OpV) (g cap k : Nat) (W : World) (hl : l.length ≤ 1048576) (hk : 0 < k) (hk2 : k ≤ 20000000) (h : OpsIn W g 59 l) :
    Calls Try.prog 15 #[.slice (some ⟨g, 0, none⟩) l.length cap, .int .i64 (k : Int)] W fun e w' => e = .returned (.int .i64 ((k + 7 * l.length : Nat) : Int)) ∧ MarkedL [some ⟨g, 0, none⟩] W w' := by
  refine (mark_any (some ⟨g, 0, none⟩) l.length cap k W hl hk (by omega) (.inl ⟨g, _, rfl, Nat.le_refl _, opsArr l, h, opsArr_size _⟩)).mono ?_
  rintro e w' ⟨h1, _, _, h2⟩
  exact ⟨h1, MarkedL.of_grown h2⟩
set_option maxRecDepth 100000 in
set_option maxHeartbeats 4000000 in
theorem law_upload (w : World) (la : Option Addr) (lc : Nat) (sa : Option Addr) (sc : Nat) (s : SrvV) (r fr : Int) (ma : Option Addr) (mc : Nat) (l : List OpV) (hC : CameSv w la sa s) (hf1 : (Lit.int IntKind.i64 r).wf = true) (hf2 : (Lit.int IntKind.i64 fr).wf = true) (hM : CameOps w ma l) :
    Calls Try.prog 3 #[s.agg la lc sa sc, .int .i64 r, .int .i64 fr, .slice ma l.length mc] w fun e w' => e = .returned (.bool true) ∧ Below w.heap.size w w' := by
  clear hf1 hf2
  obtain ⟨hl0, hm0, hsz0, _⟩ := hM
  have hsz := fun W (hW : Below w.heap.size w W) => szServer_any s la sa lc sc W hC.sz (hC.ops.stays hW)
  have hsl := fun L h0 h1 W (hW : Below w.heap.size w W) => szOpS_left L l ma mc W h0 h1 hl0 (hm0.stays hW) hsz0
  have hto := fun W (hz : SSz 1048576 s) (hW : Below w.heap.size w W) => toServer_any s la sa lc sc W hz (hC.ops.stays hW) (hC.seen.stays hW)
  have htl := fun W (hl : l.length ≤ 1048576) (hW : Below w.heap.size w W) => toOpS_any l ma mc W hl (hm0.stays hW)
  have hsp := fun b off lc sa sc bl ol cl W (hz : SSz 1048576 s) (hl : l.length ≤ 1048576 ∧ ∀ o ∈ l, o.name.size ≤ 1048576 ∧ o.value.size ≤ 1048576) hlc hcl h1 h2 h3 => sUp_any s b off lc sa sc r fr l bl ol cl W hz hlc h1 h2 hl.1 hcl h3 hsz0
  have him := fun b off lc sa sc bl ol cl W (hz : SSz 1048576 s) (hl : l.length ≤ 1048576 ∧ ∀ o ∈ l, o.name.size ≤ 1048576 ∧ o.value.size ≤ 1048576) hlc hcl h1 h2 h3 hb => iUp_any s b off lc sa sc r fr l bl ol cl W hz hlc h1 h2 hl.1 hcl h3 hsz0 hb hl.2
  have hlen := upRes_len s r fr l
  obtain ⟨x, hx⟩ : ∃ x, x = upRes s r fr l := ⟨_, rfl⟩
  rw [← hx] at hlen
  simp only [← hx] at hsp him
  have heq := fun la sa lb sb lc sc ld sd W (hz : SSz 1048576 s) h1 h2 h3 h4 => eqServer_same s la sa lb sb lc sc ld sd W hC.sz.ops hC.sz.seen h1 h2 h3 h4
  have hel := fun ao1 ao2 c1 c2 W h1 h2 => eqOpS_same l ao1 ao2 c1 c2 W hl0 h1 h2
  have heo := fun la sa oa lb sb ob lc sc oc ld sd od W (hz : SSz 1048576 s) (_ : l.length ≤ 1048576) h1 h2 h3 h4 h5 h6 => eqServerOut_same x la sa oa lb sb ob lc sc oc ld sd od W (Nat.le_trans hlen.1 (by unfold maxLen; omega)) (Nat.le_trans hlen.2.1 (by unfold maxLen; omega)) (Nat.le_trans hlen.2.2 (by unfold maxLen; omega)) h1 h2 h3 h4 h5 h6
  have hms := fun la sa lc sc W (hz : SSz 1048576 s) h1 => markServer_any s la sa lc sc 1 W hz.ops hz.seen (by omega) (by omega) h1
  have hmo := fun la sa oa lc sc oc W (hz : SSz 1048576 s) (_ : l.length ≤ 1048576) h1 => markServerOut_any x la sa oa lc sc oc W hlen.1 hlen.2.1 hlen.2.2 h1
  have hho := fun la sa oa lc sc oc W (hz : SSz 1048576 s) (_ : l.length ≤ 1048576) h1 h2 h3 => heldServerOut_any x la sa oa lc sc oc W hlen.1 hlen.2.1 hlen.2.2 h1 h2 h3
  rw [show ((1 : Nat) : Int) = 1 from rfl] at hms
  obtain ⟨KC, hKC⟩ : ∃ K : Nat, K = 1 + 7 * s.ops.length + 2 * s.seen.length := ⟨_, rfl⟩
  obtain ⟨KX, hKX⟩ : ∃ K : Nat, K = 1 + 7 * x.srv.ops.length + 2 * x.srv.seen.length + 7 * x.ops.length := ⟨_, rfl⟩
  rw [← hKC] at hms
  rw [← hKX] at hmo hho
  have hml := fun g cap W (hz : SSz 1048576 s) (hl : l.length ≤ 1048576) h => markRowL_any l g cap KC W hl (by omega) (by have := hz.ops; have := hz.seen; omega) h
  obtain ⟨KL, hKL⟩ : ∃ K : Nat, K = KC + 7 * l.length := ⟨_, rfl⟩
  rw [← hKL] at hml
  have hneg1 : ¬ ((KC : Int) < 0) := by omega
  have hneg2 : ¬ ((KX : Int) < 0) := by omega
  have hneg3 : ¬ ((KL : Int) < 0) := by omega
  have HB0 := hide (SL.new w s la lc sa sc)
  unfold SrvV.agg at *
  unfold SOutV.agg at heo hmo hho
  have HSZ := hide hsz
  have HSL := hide hsl
  have HTO := hide hto
  have HTL := hide htl
  have HSP := hide hsp
  have HIM := hide him
  have HEQ := hide heq
  have HEL := hide hel
  have HEO := hide heo
  have HMS := hide hms
  have HML := hide hml
  have HMO := hide hmo
  have HHO := hide hho
  clear hsz hsl hto htl hsp him heq hel heo hms hml hmo hho hx hlen hKC hKX hKL hC hl0 hm0 hsz0
  obtain ⟨p0, p1⟩ := HB0.out.cells
  have M1 : Hid True := ⟨trivial⟩
  have M2 : Hid True := ⟨trivial⟩
  have M3 : Hid True := ⟨trivial⟩
  have M4 : Hid True := ⟨trivial⟩
  have T1 : Hid True := ⟨trivial⟩
  have T2 : Hid True := ⟨trivial⟩
  go_enter Try.func3, Try.ntmps3
  go_wp2_with (first | (go_at_call 5; (refine (HSZ.out _ HB0.out.below).mono ?_); rintro e w1 ⟨m, rfl, hm, hq, hb1⟩; have HQ := hide hq; have HB1 := hide (HB0.out.step hb1); clear p0 p1 hb1 hq; obtain ⟨p0, p1⟩ := HB1.out.cells) | (go_at_call 6; (refine (HSL.out m (by omega) (by omega) _ HB1.out.below).mono ?_); rintro e w1q ⟨mq, rfl, hmq, hqq, hbq⟩; have HQL := hide hqq; have HBq := hide (HB1.out.step hbq); clear p0 p1 hbq hqq; obtain ⟨p0, p1⟩ := HBq.out.cells) | (go_at_call 8; clear M1; have HQ1 := hide (HQ.out (by omega)); have HQ2 := hide (HQL.out (by omega)); (refine (HTO.out _ HQ1.out HBq.out.below).mono ?_); rintro e w2 ⟨g1, g2, rfl, hx, hy, _, _, hb2⟩; have HX2 := hide hx.opsAt; have HY2 := hide hy.seensAt; have HB2 := hide (HBq.out.step hb2); clear p0 p1 hb2 hx hy HQ HQL; obtain ⟨p0, p1⟩ := HB2.out.cells) | (go_at_call 9; clear T1; (refine (HTL.out _ HQ2.out.1 HB2.out.below).mono ?_); rintro e w2l ⟨rfl, hz, hbl⟩; have HZ2 := hide hz.opsAt; have HX2l := hide (HX2.out.stays hbl); have HY2l := hide (HY2.out.stays hbl); have HB2l := hide (HB2.out.step hbl); clear p0 p1 hbl hz HX2 HY2; obtain ⟨p0, p1⟩ := HB2l.out.cells) | (go_at_call 7; (refine (HSP.out _ _ _ _ _ _ _ _ _ HQ1.out HQ2.out (Nat.le_refl _) (Nat.le_refl _) HX2l.out HY2l.out HZ2.out).mono ?_); intro e w3 h3; obtain ⟨sl, slc, ss, ssc, so, soc, he, hL, hE, hO, hb3⟩ := h3; unfold SOutV.agg at he; subst he; have HN3 := hide (NO.new (slc := slc) (ssc := ssc) (soc := soc) (HB2l.out.step hb3) hL hE hO); clear p0 p1 hb3 HX2l HY2l HZ2 hL hE hO; obtain ⟨p0, p1⟩ := HN3.out.p) | (go_at_call 8; clear M2; (refine (HTO.out _ HQ1.out HN3.out.below).mono ?_); rintro e w4 ⟨g3, g4, rfl, hx, hy, hl3, hl4, hb4⟩; have HX4 := hide hx; have HY4 := hide hy; have HN4 := hide (HN3.out.step hb4); have HL4 := hide (And.intro hl3 hl4); clear p0 p1 hb4 hx hy hl3 hl4; obtain ⟨p0, p1⟩ := HN4.out.p) | (go_at_call 9; clear T2; have hx0 := SB.new w4 s (some ⟨g3, 0, none⟩) s.ops.length (some ⟨g4, 0, none⟩) s.seen.length; (refine (HTL.out _ HQ2.out.1 (HN4.out.step hx0.below).below).mono ?_); rintro e w5 ⟨rfl, hz, hb5⟩; have hz5 : OpsIn w5 (w4.heap.size + 1) 59 l := (by simpa using hz); have HZ5 := hide hz5; have HXV5 := hide (hx0.step hb5); have HX5 := hide ((HX4.out.stays hx0.below).stays hb5); have HY5 := hide ((HY4.out.stays hx0.below).stays hb5); have HN5 := hide ((HN4.out.step hx0.below).step hb5); have HS4 := hide (And.intro HX4.out.lt HY4.out.lt); clear p0 p1 hx0 hz hz5 hb5 HX4 HY4; obtain ⟨p0, p1⟩ := HN5.out.p; obtain ⟨q0, q1⟩ := HXV5.out.cells) | (go_at_call 10; clear M3; (refine (HIM.out _ _ _ _ _ _ _ _ _ HQ1.out HQ2.out (Nat.le_refl _) (Nat.le_refl _) HX5.out.opsAt HY5.out.seensAt HZ5.out.opsAt HZ5.out.lt).mono ?_); intro e w6 h6; obtain ⟨gl, glc, gs, gsc, go, goc, he, hL, hE, hO, hM, hbl, hbs, hbo, hb6⟩ := h6; unfold SOutV.agg at he; subst he; have HG6 := hide (GO.new (glc := glc) (gsc := gsc) (goc := goc) hL hE hO hM hbl hbs hbo hb6.size); have hbg : Below w6.heap.size w6 (w6.alloc (.cells #[.slice gl x.srv.ops.length glc, .slice gs x.srv.seen.length gsc, .slice go x.ops.length goc, .int .i64 x.many, .int .i64 x.code] 33)) := (Below.refl w6.heap.size w6).alloc (Nat.le_refl _) _; have HXV := hide ((HXV5.out.step hb6).step hbg); have HX6 := hide ((HX5.out.stays hb6).stays hbg); have HY6 := hide ((HY5.out.stays hb6).stays hbg); have HZ6 := hide ((HZ5.out.stays hb6).stays hbg); have HN6 := hide ((HN5.out.step hb6).step hbg); have HZ4 := hide (And.intro HX5.out.lt HY5.out.lt); have HZL := hide HZ5.out.lt; clear p0 p1 q0 q1 hb6 hbg hL hE hO hM hbl hbs hbo HX5 HY5 HZ5; obtain ⟨p0, p1⟩ := HN6.out.p; obtain ⟨q0, q1⟩ := HXV.out.cells; obtain ⟨r0, r1, r2, r3, r4⟩ := HG6.out.cells; obtain ⟨s0, s1, s2, s3, s4⟩ := HN6.out.q) | (go_at_call 11; clear M4; (refine (HEO.out _ _ _ _ _ _ _ _ _ _ _ _ _ HQ1.out HQ2.out.1 HG6.out.ops HG6.out.seen HG6.out.out HN6.out.ops HN6.out.seen HN6.out.out).mono ?_); rintro e w7 ⟨rfl, hb7⟩; have HN7 := hide (HN6.out.step hb7); have HXV7 := hide (HXV.out.step hb7); have HX7 := hide (HX6.out.stays hb7); have HY7 := hide (HY6.out.stays hb7); have HZ7 := hide (HZ6.out.stays hb7); have HG7 := hide (HG6.out.step hb7); clear p0 p1 q0 q1 r0 r1 r2 r3 r4 s0 s1 s2 s3 s4 hb7; obtain ⟨p0, p1⟩ := HN7.out.p; obtain ⟨q0, q1⟩ := HXV7.out.cells; obtain ⟨r0, r1, r2, r3, r4⟩ := HG7.out.cells; obtain ⟨s0, s1, s2, s3, s4⟩ := HN7.out.q) | fail)
  · go_ret
    exact ⟨rfl, HB1.out.below⟩
  · go_ret
    exact ⟨rfl, HBq.out.below⟩
  go_region_with (first | (go_at_call 8; (refine (HTO.out _ HQ1.out HN7.out.below.drew).mono ?_); rintro e w8 ⟨g7, g8, rfl, hx, hy, _, _, hb8⟩; have HXX8 := hide hx.opsAt; have HYY8 := hide hy.seensAt; have hq8 : Below w7.heap.size w7 w8 := ((Below.refl _ w7).drew).trans (hb8.mono (Nat.le_refl _)); have HN8 := hide (HN7.out.step hq8); have HXV8 := hide (HXV7.out.step hq8); have HX8 := hide (HX7.out.stays hq8); have HY8 := hide (HY7.out.stays hq8); have HZ8 := hide (HZ7.out.stays hq8); have HG8 := hide (HG7.out.step hq8); obtain ⟨q0, q1⟩ := HXV8.out.cells; clear hb8 hq8 hx hy) | (go_at_call 12; (refine (HEQ.out _ _ _ _ _ _ _ _ _ HQ1.out HX8.out.opsAt HY8.out.seensAt HXX8.out HYY8.out).mono ?_); rintro e w9 ⟨rfl, hb9⟩; have HN9 := hide (HN8.out.step hb9); have HXV9 := hide (HXV8.out.step hb9); have HX9 := hide (HX8.out.stays hb9); have HY9 := hide (HY8.out.stays hb9); have HZ9 := hide (HZ8.out.stays hb9); have HG9 := hide (HG8.out.step hb9); clear hb9) | fail)
  all_goals as_aux_lemma =>
    clear p0 p1 q0 q1 r0 r1 r2 r3 r4 s0 s1 s2 s3 s4
    obtain ⟨p0, p1⟩ := HN9.out.p
    obtain ⟨q0, q1⟩ := HXV9.out.cells
    obtain ⟨r0, r1, r2, r3, r4⟩ := HG9.out.cells
    obtain ⟨s0, s1, s2, s3, s4⟩ := HN9.out.q
    have M5 : Hid True := ⟨trivial⟩
    have M6 : Hid True := ⟨trivial⟩
    go_wp2_with (first | (go_at_call 9; (refine (HTL.out _ HQ2.out.1 HN9.out.below).mono ?_); rintro e wc ⟨rfl, hz, hbc⟩; have HZC := hide hz.opsAt; have HNA := hide (HN9.out.step hbc); have HXVA := hide (HXV9.out.step hbc); have HXA := hide (HX9.out.stays hbc); have HYA := hide (HY9.out.stays hbc); have HZA := hide (HZ9.out.stays hbc); have HGA := hide (HG9.out.step hbc); clear p0 p1 q0 q1 r0 r1 r2 r3 r4 s0 s1 s2 s3 s4 hz hbc; obtain ⟨p0, p1⟩ := HNA.out.p; obtain ⟨q0, q1⟩ := HXVA.out.cells; obtain ⟨r0, r1, r2, r3, r4⟩ := HGA.out.cells; obtain ⟨s0, s1, s2, s3, s4⟩ := HNA.out.q) | (go_at_call 13; (refine (HEL.out _ _ _ _ _ HZA.out.opsAt HZC.out).mono ?_); rintro e wd ⟨rfl, hbd⟩; have HND := hide (HNA.out.step hbd); have HXVD := hide (HXVA.out.step hbd); have HXD := hide (HXA.out.stays hbd); have HYD := hide (HYA.out.stays hbd); have HZD := hide (HZA.out.stays hbd); have HGD := hide (HGA.out.step hbd); clear p0 p1 q0 q1 r0 r1 r2 r3 r4 s0 s1 s2 s3 s4 hbd; obtain ⟨p0, p1⟩ := HND.out.p; obtain ⟨q0, q1⟩ := HXVD.out.cells; obtain ⟨r0, r1, r2, r3, r4⟩ := HGD.out.cells; obtain ⟨s0, s1, s2, s3, s4⟩ := HND.out.q) | (go_at_call 14; (refine (HMS.out _ _ _ _ _ HQ1.out (mark_sv HXD.out HYD.out HL4.out.2)).mono ?_); rintro e w10 ⟨rfl, _, _, hm⟩; have hl := HL4.out; have hz := HZ4.out; have hs4 := HS4.out; have hn := NO.lt HN4.out; have HN10 := hide (HND.out.marked hm (row2 hl.1 (Nat.le_of_lt (Nat.lt_of_le_of_lt hl.1 hl.2)))); have HG10 := hide (HGD.out.marked hm (row2_lt hz.1 hz.2)); have HZ10 := hide (HZD.out.block (hm.block _ HZD.out.lt (row2_ne (show (w4.heap.size + 1) ≠ g3 by omega) (show (w4.heap.size + 1) ≠ g4 by omega)))); clear hm hl hz hs4 hn p0 p1 q0 q1 r0 r1 r2 r3 r4 s0 s1 s2 s3 s4; obtain ⟨p0, p1⟩ := HN10.out.p; obtain ⟨r0, r1, r2, r3, r4⟩ := HG10.out.cells; obtain ⟨s0, s1, s2, s3, s4⟩ := HN10.out.q) | (go_at_call 15; (refine (HML.out _ _ _ HQ1.out HQ2.out.1 HZ10.out).mono ?_); rintro e w10l ⟨rfl, hm⟩; have hn := NO.lt HN4.out; have HN10l := hide (HN10.out.marked hm (row1 (Nat.le_succ_of_le hn))); have HG10l := hide (HG10.out.marked hm (row1_lt HZL.out)); clear hm hn p0 p1 r0 r1 r2 r3 r4 s0 s1 s2 s3 s4; obtain ⟨p0, p1⟩ := HN10l.out.p; obtain ⟨r0, r1, r2, r3, r4⟩ := HG10l.out.cells; obtain ⟨s0, s1, s2, s3, s4⟩ := HN10l.out.q) | (go_at_call 11; clear M5; (refine (HEO.out _ _ _ _ _ _ _ _ _ _ _ _ _ HQ1.out HQ2.out.1 HG10l.out.ops HG10l.out.seen HG10l.out.out HN10l.out.ops HN10l.out.seen HN10l.out.out).mono ?_); rintro e w11 ⟨rfl, hb11⟩; have HG11 := hide (HG10l.out.step hb11); have HN11 := hide (HN10l.out.step hb11); clear hb11 p0 p1 r0 r1 r2 r3 r4 s0 s1 s2 s3 s4; obtain ⟨p0, p1⟩ := HN11.out.p; obtain ⟨r0, r1, r2, r3, r4⟩ := HG11.out.cells; obtain ⟨s0, s1, s2, s3, s4⟩ := HN11.out.q) | (go_at_call 16; (refine (HMO.out _ _ _ _ _ _ _ HQ1.out HQ2.out.1 HG11.out.mrk).mono ?_); rintro e w12 ⟨rfl, hx, hy, hz, hm⟩; have HM12 := hide (HG11.out.own hm hx hy hz); have HN12 := hide (HN11.out.marked hm (fun b hb a e => Nat.le_trans HN5.out.lt (HG11.out.ne b hb a e).1)); clear hm hx hy hz p0 p1 r0 r1 r2 r3 r4 s0 s1 s2 s3 s4; obtain ⟨p0, p1⟩ := HN12.out.p; obtain ⟨r0, r1, r2, r3, r4⟩ := HM12.out.cells; obtain ⟨s0, s1, s2, s3, s4⟩ := HN12.out.q) | (go_at_call 17; clear M6; (refine (HHO.out _ _ _ _ _ _ _ HQ1.out HQ2.out.1 HM12.out.ops HM12.out.seen HM12.out.out).mono ?_); rintro e w13 ⟨rfl, hb13⟩; have HM13 := hide (HM12.out.step hb13); have HN13 := hide (HN12.out.step hb13); clear hb13 p0 p1 r0 r1 r2 r3 r4 s0 s1 s2 s3 s4; obtain ⟨p0, p1⟩ := HN13.out.p; obtain ⟨r0, r1, r2, r3, r4⟩ := HM13.out.cells; obtain ⟨s0, s1, s2, s3, s4⟩ := HN13.out.q) | fail)
    all_goals (try (exfalso; omega))
    all_goals as_aux_lemma =>
      go_wp2_with (first | (go_at_call 8; (refine (HTO.out _ HQ1.out HN13.out.below).mono ?_); rintro e w14 ⟨g9, g10, rfl, hx, hy, _, _, hb14⟩; have HX14 := hide hx.opsAt; have HY14 := hide hy.seensAt; have HM14 := hide (HM13.out.step hb14); have HN14 := hide (HN13.out.step hb14); clear hb14 hx hy p0 p1 r0 r1 r2 r3 r4 s0 s1 s2 s3 s4; obtain ⟨p0, p1⟩ := HN14.out.p; obtain ⟨r0, r1, r2, r3, r4⟩ := HM14.out.cells; obtain ⟨s0, s1, s2, s3, s4⟩ := HN14.out.q) | (go_at_call 9; (refine (HTL.out _ HQ2.out.1 HN14.out.below).mono ?_); rintro e w14l ⟨rfl, hz, hbl⟩; have HZ14 := hide (And.intro hz.opsAt hz.lt); have HX14l := hide (HX14.out.stays hbl); have HY14l := hide (HY14.out.stays hbl); have HM14l := hide (HM14.out.step hbl); have HN14l := hide (HN14.out.step hbl); clear hbl hz p0 p1 r0 r1 r2 r3 r4 s0 s1 s2 s3 s4; obtain ⟨p0, p1⟩ := HN14l.out.p; obtain ⟨r0, r1, r2, r3, r4⟩ := HM14l.out.cells; obtain ⟨s0, s1, s2, s3, s4⟩ := HN14l.out.q) | (go_at_call 10; (refine (HIM.out _ _ _ _ _ _ _ _ _ HQ1.out HQ2.out (Nat.le_refl _) (Nat.le_refl _) HX14l.out HY14l.out HZ14.out.1 HZ14.out.2).mono ?_); intro e w15 h15; obtain ⟨hl, hlc, hs, hsc, ho, hoc, he, hL, hE, hO, _, _, _, _, hb15⟩ := h15; unfold SOutV.agg at he; subst he; have hbg : Below w15.heap.size w15 (w15.alloc (.cells #[.slice hl x.srv.ops.length hlc, .slice hs x.srv.seen.length hsc, .slice ho x.ops.length hoc, .int .i64 x.many, .int .i64 x.code] 33)) := (Below.refl w15.heap.size w15).alloc (Nat.le_refl _) _; have HH15 := hide (Fiv.new w15 x hl hlc hs hsc ho hoc); have HHL := hide (hL.stays hbg); have HHE := hide (hE.stays hbg); have HHO' := hide (hO.stays hbg); have HM15 := hide ((HM14l.out.step hb15).step hbg); have HN15 := hide ((HN14l.out.step hb15).step hbg); clear hb15 hbg hL hE hO p0 p1 r0 r1 r2 r3 r4 s0 s1 s2 s3 s4; obtain ⟨q0, q1, q2, q3, q4⟩ := HH15.out.cells; obtain ⟨p0, p1⟩ := HN15.out.p; obtain ⟨r0, r1, r2, r3, r4⟩ := HM15.out.cells; obtain ⟨s0, s1, s2, s3, s4⟩ := HN15.out.q) | (go_at_call 11; (refine (HEO.out _ _ _ _ _ _ _ _ _ _ _ _ _ HQ1.out HQ2.out.1 HHL.out HHE.out HHO'.out HN15.out.ops HN15.out.seen HN15.out.out).mono ?_); rintro e w16 ⟨rfl, hb16⟩; have HM16 := hide (HM15.out.step hb16); have HN16 := hide (HN15.out.step hb16); clear hb16 p0 p1 r0 r1 r2 r3 r4 s0 s1 s2 s3 s4 q0 q1 q2 q3 q4; obtain ⟨r0, r1, r2, r3, r4⟩ := HM16.out.cells) | (go_at_call 17; (refine (HHO.out _ _ _ _ _ _ _ HQ1.out HQ2.out.1 HM16.out.ops HM16.out.seen HM16.out.out).mono ?_); rintro e w17 ⟨rfl, hb17⟩; have HN17 := hide (HN16.out.step hb17); clear hb17) | fail)
      all_goals (try (exfalso; omega))
      all_goals (
        go_ret
        exact ⟨rfl, HN17.out.below⟩)
end Go.Proofs.Ytdjjpaleemnikaa.OpR
