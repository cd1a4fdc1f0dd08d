/- Proves the walk of the law FnExactMove. -/
import Derived.Test.YtfkgmkcndchkjaaGreatDoorMgP
import Derived.Test.YtfkgmkcndchkjaaGreatDoorCameC
namespace Go.Proofs.YtfkgmkcndchkjaaGreatDoor.OpR
open Go.ChangeShapes Go.WideShapes Go.ChangeAt Go.RowKit
set_option linter.unusedVariables false

theorem actRes_len (o : OpV) {c : CliV} (hz : CSz 1048576 c) : (actRes c o).cl.log.length ≤ 1048576 ∧ (actRes c o).cl.out.length ≤ 1048576 := by
  have h0 : ∀ code, (OutV.ill code).cl.log.length ≤ 1048576 ∧ (OutV.ill code).cl.out.length ≤ 1048576 := fun code => ⟨Nat.zero_le _, Nat.zero_le _⟩
  unfold actRes
  repeat' split
  all_goals first
    | exact h0 _
    | (rename_i h5
       have h1 : (c.log ++ [o]).length ≤ 1048576 := by
         rw [List.length_append]
         show _ + 1 ≤ _
         omega
       have h2 : (c.out ++ [o]).length ≤ 1048576 := by
         rw [List.length_append]
         show _ + 1 ≤ _
         omega
       exact ⟨h1, h2⟩)
set_option maxRecDepth 100000 in
set_option maxHeartbeats 2000000 in
theorem law_move (w : World) (la : Option Addr) (lc : Nat) (oa : Option Addr) (oc : Nat) (c : CliV) {f : Nat → Addr} (hS : Sents w f) (hC : CameCli w la oa c) (nd p : Int) (nm : ByteArray) (hnd : (Lit.int IntKind.i64 nd).wf = true) (hp : (Lit.int IntKind.i64 p).wf = true) (hnm : nm.size ≤ maxLen) :
    Calls Tryz.prog 3 #[c.agg la lc oa oc, .int .i64 nd, .int .i64 p, .string nm] w fun e w' => e = .returned (.bool true) ∧ Below w.heap.size w w' := by
  by_cases h8nm : 1048576 < nm.size
  · have d8 : decide ((1048576 : Int) < (nm.size : Int)) = true := by simpa using (show (1048576 : Int) < (nm.size : Int) by omega)
    have d8' : decide (1048576 < nm.size) = true := by simpa using h8nm
    have HBx := hide (CliBox.new w 24 c la lc oa oc)
    unfold CliV.agg
    clear hS hC
    go_enter Tryz.func3, Tryz.ntmps3
    go_wp2
    go_ret
    exact ⟨rfl, HBx.out.2⟩
  have d8nm : decide ((1048576 : Int) < (nm.size : Int)) = false := by simpa using (show ¬ (1048576 : Int) < (nm.size : Int) by omega)
  have d8nm' : decide (1048576 < nm.size) = false := by simpa using h8nm
  have hsz := fun W (hW : Below w.heap.size w W) => szClient_any c la oa lc oc W hC.sz (hC.log.stays hW) (hC.out.stays hW)
  have hto := fun W (hz : CSz 1048576 c) (hW : Below w.heap.size w W) => toClient_any c la oa lc oc W hz (hC.log.stays hW) (hC.out.stays hW)
  have hsp := fun la oa lc oc W h1 h2 => sMoveC_any c la oa lc oc nd p nm W hC.sz h1 h2 hnm
  have him := fun la lc ob oo oc W (hz : CSz 1048576 c) (hoc : c.log.length ≤ lc) (hW : Below w.heap.size w W) h1 h2 => iMoveC_any c la (some ⟨ob, oo, none⟩) lc oc nd p nm W (hS.step hW) hz hoc h1 h2 hnm
  have hlen : CSz 1048576 c → (actRes c (moveO c nd p nm)).cl.log.length ≤ 1048576 ∧ (actRes c (moveO c nd p nm)).cl.out.length ≤ 1048576 := fun hz => actRes_len _ hz
  obtain ⟨x, hx⟩ : ∃ x, x = actRes c (moveO c nd p nm) := ⟨_, rfl⟩
  rw [← hx] at hlen
  simp only [← hx] at hsp him
  have heq := fun la oa lb ob lc oc ld od W h1 h2 h3 h4 => eqClient_same c la oa lb ob lc oc ld od W hC.sz.log hC.sz.out h1 h2 h3 h4
  have heo := fun la oa lb ob lc oc ld od W (hz : CSz 1048576 c) h1 h2 h3 h4 => eqClientOut_same x la oa lb ob lc oc ld od W (Nat.le_trans (hlen hz).1 (by unfold maxLen; omega)) (Nat.le_trans (hlen hz).2 (by unfold maxLen; omega)) h1 h2 h3 h4
  have hmc := fun la oa lc oc W (hz : CSz 1048576 c) h1 => markClient_any c la oa lc oc 1 W hz.log hz.out (by omega) (by omega) h1
  have hmo := fun la oa lc oc W (hz : CSz 1048576 c) h1 => markClientOut_any x la oa lc oc W (hlen hz).1 (hlen hz).2 h1
  have hho := fun la oa lc oc W (hz : CSz 1048576 c) h1 h2 => heldClientOut_any x la oa lc oc W (hlen hz).1 (hlen hz).2 h1 h2
  rw [show ((1 : Nat) : Int) = 1 from rfl] at hmc
  obtain ⟨KC, hKC⟩ : ∃ K : Nat, K = 1 + 7 * c.log.length + 7 * c.out.length := ⟨_, rfl⟩
  obtain ⟨KX, hKX⟩ : ∃ K : Nat, K = 1 + 7 * x.cl.log.length + 7 * x.cl.out.length := ⟨_, rfl⟩
  rw [← hKC] at hmc
  rw [← hKX] at hmo hho
  have hneg1 : ¬ ((KC : Int) < 0) := by omega
  have hneg2 : ¬ ((KX : Int) < 0) := by omega
  have HB0 := hide (CliBox.new w 24 c la lc oa oc)
  unfold CliV.agg at *
  unfold OutV.agg at heo hmo hho
  have HSZ := hide hsz
  have HTO := hide hto
  have HSP := hide hsp
  have HIM := hide him
  have HEQ := hide heq
  have HEO := hide heo
  have HMC := hide hmc
  have HMO := hide hmo
  have HHO := hide hho
  clear hsz hto hsp him heq heo hmc hmo hho hx hlen hKC hKX hS hC
  obtain ⟨p0, p1, p2, p3, p4, p5⟩ := HB0.out.cells
  have M1 : Hid True := ⟨trivial⟩
  have M2 : Hid True := ⟨trivial⟩
  have M3 : Hid True := ⟨trivial⟩
  have M4 : Hid True := ⟨trivial⟩
  go_enter Tryz.func3, Tryz.ntmps3
  go_wp2_with (first | (go_at_call 9; refine (HSZ.out _ HB0.out.2).mono ?_; rintro e w1 ⟨m, rfl, hm, hq, hb1⟩; have HQ := hide hq; have HB1 := hide (HB0.out.step hb1); clear p0 p1 p2 p3 p4 p5 hb1 hq; obtain ⟨p0, p1, p2, p3, p4, p5⟩ := HB1.out.cells) | (go_at_call 11; clear M1; have HQ1 := hide (HQ.out (by omega)); (refine (HTO.out _ HQ1.out HB1.out.2).mono ?_); rintro e w2 ⟨g1, g2, rfl, hx, hy, _, _, hb2⟩; have HX2 := hide hx.opsAt; have HY2 := hide hy.opsAt; have HB2 := hide (HB1.out.step hb2); clear p0 p1 p2 p3 p4 p5 hb2 hx hy HQ; obtain ⟨p0, p1, p2, p3, p4, p5⟩ := HB2.out.cells) | (go_at_call 10; (refine (HSP.out _ _ _ _ _ HX2.out HY2.out).mono ?_); intro e w3 h3; obtain ⟨sl, slc, so, soc, he, hL, hO, hb3⟩ := h3; unfold OutV.agg at he; subst he; have HW3 := hide (WS.new (lc := slc) (oc := soc) hL hO); have hba := (Below.refl w3.heap.size w3).alloc (Nat.le_refl _) (.cells #[.int .i64 x.cl.repl, .int .i64 x.cl.clock, .slice sl x.cl.log.length slc, .int .i64 x.cl.acked, .slice so x.cl.out.length soc, .int .i64 x.cl.got, .int .i64 x.op.time, .int .i64 x.op.repl, .int .i64 x.op.kind, .int .i64 x.op.node, .int .i64 x.op.parent, .string x.op.name, .string x.op.value, .int .i64 x.many, .int .i64 x.code] 32); have HB3 := hide ((HB2.out.step hb3).step hba); clear p0 p1 p2 p3 p4 p5 hb3 hba HX2 HY2 hL hO; obtain ⟨p0, p1, p2, p3, p4, p5⟩ := HB3.out.cells) | (go_at_call 11; clear M2; (refine (HTO.out _ HQ1.out HB3.out.2).mono ?_); rintro e w4 ⟨g3, g4, rfl, hx, hy, hl3, hl4, hb4⟩; have HX4 := hide hx; have HY4 := hide hy; have HB4 := hide (HB3.out.step hb4); have HW4 := hide (HW3.out.step hb4); have HL4 := hide (And.intro hl3 hl4); clear p0 p1 p2 p3 p4 p5 hb4 hx hy hl3 hl4; obtain ⟨p0, p1, p2, p3, p4, p5⟩ := HB4.out.cells) | (go_at_call 12; clear M3; have hx0 : CliBox w4 (w4.alloc (.cells #[.int .i64 c.repl, .int .i64 c.clock, .slice (some ⟨g3, 0, none⟩) c.log.length c.log.length, .int .i64 c.acked, .slice (some ⟨g4, 0, none⟩) c.out.length c.out.length, .int .i64 c.got] 28)) w4.heap.size 28 c (some ⟨g3, 0, none⟩) c.log.length (some ⟨g4, 0, none⟩) c.out.length := CliBox.new w4 _ c _ _ _ _; have HX5 := hide (HX4.out.stays hx0.2); have HY5 := hide (HY4.out.stays hx0.2); have HB5 := hide (HB4.out.step hx0.2); have HW5 := hide (HW4.out.step hx0.2); (refine (HIM.out _ _ _ _ _ _ HQ1.out (Nat.le_refl _) HB5.out.2 HX5.out.opsAt HY5.out.opsAt).mono ?_); intro e w6 h6; obtain ⟨gl, go, he, hL, hO, hM, hbl, hbo, hb6⟩ := h6; unfold OutV.agg at he; subst he; have HG6 := hide (GS.new hL hO hM hbl hbo hb6.size); have hbg : Below w6.heap.size w6 (w6.alloc (.cells #[.int .i64 x.cl.repl, .int .i64 x.cl.clock, .slice gl x.cl.log.length x.cl.log.length, .int .i64 x.cl.acked, .slice go x.cl.out.length x.cl.out.length, .int .i64 x.cl.got, .int .i64 x.op.time, .int .i64 x.op.repl, .int .i64 x.op.kind, .int .i64 x.op.node, .int .i64 x.op.parent, .string x.op.name, .string x.op.value, .int .i64 x.many, .int .i64 x.code] 32)) := (Below.refl w6.heap.size w6).alloc (Nat.le_refl _) _; have HXV := hide ((hx0.step hb6).step hbg); have HX6 := hide ((HX5.out.stays hb6).stays hbg); have HY6 := hide ((HY5.out.stays hb6).stays hbg); have HB6 := hide ((HB5.out.step hb6).step hbg); have HW6 := hide ((HW5.out.step hb6).step hbg); clear p0 p1 p2 p3 p4 p5 hb6 hbg hx0 HX4 HY4 hL hO hM hbl hbo; obtain ⟨p0, p1, p2, p3, p4, p5⟩ := HB6.out.cells; obtain ⟨q0, q1, q2, q3, q4, q5⟩ := HXV.out.cells; obtain ⟨r0, r1, r2, r3, r4, r5, r6, r7, r8, r9, r10, r11, r12, r13, r14, _⟩ := HG6.out.fif.cells; obtain ⟨s0, s1, s2, s3, s4, s5, s6, s7, s8, s9, s10, s11, s12, s13, s14, _⟩ := HW6.out.fif.cells) | (go_at_call 13; clear M4; (refine (HEO.out _ _ _ _ _ _ _ _ _ HQ1.out HG6.out.log HG6.out.out HW6.out.log.at_ HW6.out.out.at_).mono ?_); rintro e w7 ⟨rfl, hb7⟩; have HG7 := hide (HG6.out.step hb7); have HW7 := hide (HW6.out.step hb7); have HB7 := hide (HB6.out.step hb7); have HXV7 := hide (HXV.out.step hb7); have HX7 := hide (HX6.out.stays hb7); have HY7 := hide (HY6.out.stays hb7); clear p0 p1 p2 p3 p4 p5 q0 q1 q2 q3 q4 q5 r0 r1 r2 r3 r4 r5 r6 r7 r8 r9 r10 r11 r12 r13 r14 s0 s1 s2 s3 s4 s5 s6 s7 s8 s9 s10 s11 s12 s13 s14 hb7; obtain ⟨p0, p1, p2, p3, p4, p5⟩ := HB7.out.cells; obtain ⟨q0, q1, q2, q3, q4, q5⟩ := HXV7.out.cells; obtain ⟨r0, r1, r2, r3, r4, r5, r6, r7, r8, r9, r10, r11, r12, r13, r14, _⟩ := HG7.out.fif.cells; obtain ⟨s0, s1, s2, s3, s4, s5, s6, s7, s8, s9, s10, s11, s12, s13, s14, _⟩ := HW7.out.fif.cells) | fail)
  · go_ret
    exact ⟨rfl, HB1.out.2⟩
  have hn3 : w3.heap.size + 1 ≤ g3 := by have := HL4.out.1; simpa using this
  have hn34 := HL4.out.2
  have hn0 : w.heap.size + 1 ≤ w3.heap.size + 1 := by have := (Array.getElem?_eq_some_iff.1 HB3.out.1).1; simp at this; omega
  have hz4 := HX5.out.lt
  have hz5 := HY5.out.lt
  have HN := hide (And.intro hn3 (And.intro hn34 (And.intro hn0 (And.intro hz4 hz5))))
  clear hn3 hn34 hn0 hz4 hz5
  go_region_with (first | (go_at_call 11; (refine (HTO.out _ HQ1.out HB7.out.2.drew).mono ?_); rintro e w8 ⟨g7, g8, rfl, hx, hy, _, _, hb8⟩; have HX8 := hide hx.opsAt; have HY8 := hide hy.opsAt; have hq8 : Below w7.heap.size w7 w8 := ((Below.refl _ w7).drew).trans (hb8.mono (Nat.le_refl _)); have HB8 := hide (HB7.out.step hq8); have HXV8 := hide (HXV7.out.step hq8); have HXX8 := hide (HX7.out.stays hq8); have HYY8 := hide (HY7.out.stays hq8); have HG8 := hide (HG7.out.step hq8); have HW8 := hide (HW7.out.step hq8); obtain ⟨q0, q1, q2, q3, q4, q5⟩ := HXV8.out.cells; clear hb8 hq8 hx hy) | (go_at_call 14; (refine (HEQ.out _ _ _ _ _ _ _ _ _ HXX8.out.opsAt HYY8.out.opsAt HX8.out HY8.out).mono ?_); rintro e w9 ⟨rfl, hb9⟩; have HB9 := hide (HB8.out.step hb9); have HXV9 := hide (HXV8.out.step hb9); have HX9 := hide (HXX8.out.stays hb9); have HY9 := hide (HYY8.out.stays hb9); have HG9 := hide (HG8.out.step hb9); have HW9 := hide (HW8.out.step hb9); clear hb9) | fail)
  all_goals as_aux_lemma =>
    clear p0 p1 p2 p3 p4 p5 q0 q1 q2 q3 q4 q5 r0 r1 r2 r3 r4 r5 r6 r7 r8 r9 r10 r11 r12 r13 r14 s0 s1 s2 s3 s4 s5 s6 s7 s8 s9 s10 s11 s12 s13 s14
    obtain ⟨p0, p1, p2, p3, p4, p5⟩ := HB9.out.cells
    obtain ⟨q0, q1, q2, q3, q4, q5⟩ := HXV9.out.cells
    obtain ⟨r0, r1, r2, r3, r4, r5, r6, r7, r8, r9, r10, r11, r12, r13, r14, _⟩ := HG9.out.fif.cells
    obtain ⟨s0, s1, s2, s3, s4, s5, s6, s7, s8, s9, s10, s11, s12, s13, s14, _⟩ := HW9.out.fif.cells
    have M5 : Hid True := ⟨trivial⟩
    have M6 : Hid True := ⟨trivial⟩
    go_wp2_with (first | (go_at_call 15; (refine (HMC.out _ _ _ _ _ HQ1.out (mark_ins HX9.out HY9.out HN.out.2.1)).mono ?_); rintro e w10 ⟨rfl, _, _, hm⟩; have hn := HN.out; have HB10 := hide (HB9.out.marked hm (fun a e => by cases e; show _ ≤ g3; omega) (fun a e => by cases e; show _ ≤ g4; omega)); have HW10 := hide (HW9.out.marked hm (fun a e => by cases e; show _ ≤ g3; omega) (fun a e => by cases e; show _ ≤ g4; omega)); have HG10 := hide (HG9.out.marked hm (fun a e => by cases e; exact hn.2.2.2.1) (fun a e => by cases e; exact hn.2.2.2.2)); clear hm hn p0 p1 p2 p3 p4 p5 q0 q1 q2 q3 q4 q5 r0 r1 r2 r3 r4 r5 r6 r7 r8 r9 r10 r11 r12 r13 r14 s0 s1 s2 s3 s4 s5 s6 s7 s8 s9 s10 s11 s12 s13 s14; obtain ⟨p0, p1, p2, p3, p4, p5⟩ := HB10.out.cells; obtain ⟨r0, r1, r2, r3, r4, r5, r6, r7, r8, r9, r10, r11, r12, r13, r14, _⟩ := HG10.out.fif.cells; obtain ⟨s0, s1, s2, s3, s4, s5, s6, s7, s8, s9, s10, s11, s12, s13, s14, _⟩ := HW10.out.fif.cells) | (go_at_call 13; clear M5; (refine (HEO.out _ _ _ _ _ _ _ _ _ HQ1.out HG10.out.log HG10.out.out HW10.out.log.at_ HW10.out.out.at_).mono ?_); rintro e w11 ⟨rfl, hb11⟩; have HB11 := hide (HB10.out.step hb11); have HG11 := hide (HG10.out.step hb11); have HW11 := hide (HW10.out.step hb11); clear hb11 p0 p1 p2 p3 p4 p5 r0 r1 r2 r3 r4 r5 r6 r7 r8 r9 r10 r11 r12 r13 r14 s0 s1 s2 s3 s4 s5 s6 s7 s8 s9 s10 s11 s12 s13 s14; obtain ⟨p0, p1, p2, p3, p4, p5⟩ := HB11.out.cells; obtain ⟨r0, r1, r2, r3, r4, r5, r6, r7, r8, r9, r10, r11, r12, r13, r14, _⟩ := HG11.out.fif.cells; obtain ⟨s0, s1, s2, s3, s4, s5, s6, s7, s8, s9, s10, s11, s12, s13, s14, _⟩ := HW11.out.fif.cells) | (go_at_call 16; (refine (HMO.out _ _ _ _ _ HQ1.out HG11.out.mrk).mono ?_); rintro e w12 ⟨rfl, hx, hy, hm⟩; have hn := HN.out; have HM12 := hide (HG11.out.own hm hx hy); have HB12 := hide (HB11.out.marked hm (fun a e => by have := (HG11.out.ne1 a e).1; omega) (fun a e => by have := (HG11.out.ne2 a e).1; omega)); have HW12 := hide (HW11.out.marked hm (fun a e => by have := (HG11.out.ne1 a e).1; omega) (fun a e => by have := (HG11.out.ne2 a e).1; omega)); clear hm hx hy hn p0 p1 p2 p3 p4 p5 r0 r1 r2 r3 r4 r5 r6 r7 r8 r9 r10 r11 r12 r13 r14 s0 s1 s2 s3 s4 s5 s6 s7 s8 s9 s10 s11 s12 s13 s14; obtain ⟨p0, p1, p2, p3, p4, p5⟩ := HB12.out.cells; obtain ⟨r0, r1, r2, r3, r4, r5, r6, r7, r8, r9, r10, r11, r12, r13, r14, _⟩ := HM12.out.fif.cells; obtain ⟨s0, s1, s2, s3, s4, s5, s6, s7, s8, s9, s10, s11, s12, s13, s14, _⟩ := HW12.out.fif.cells) | (go_at_call 17; clear M6; (refine (HHO.out _ _ _ _ _ HQ1.out HM12.out.log HM12.out.out).mono ?_); rintro e w13 ⟨rfl, hb13⟩; have HB13 := hide (HB12.out.step hb13); have HM13 := hide (HM12.out.step hb13); have HW13 := hide (HW12.out.step hb13); clear hb13 p0 p1 p2 p3 p4 p5 r0 r1 r2 r3 r4 r5 r6 r7 r8 r9 r10 r11 r12 r13 r14 s0 s1 s2 s3 s4 s5 s6 s7 s8 s9 s10 s11 s12 s13 s14; obtain ⟨p0, p1, p2, p3, p4, p5⟩ := HB13.out.cells; obtain ⟨r0, r1, r2, r3, r4, r5, r6, r7, r8, r9, r10, r11, r12, r13, r14, _⟩ := HM13.out.fif.cells; obtain ⟨s0, s1, s2, s3, s4, s5, s6, s7, s8, s9, s10, s11, s12, s13, s14, _⟩ := HW13.out.fif.cells) | fail)
    all_goals (try (exfalso; omega))
    all_goals as_aux_lemma =>
      go_wp2_with (first | (go_at_call 11; (refine (HTO.out _ HQ1.out HB13.out.2).mono ?_); rintro e w14 ⟨g9, g10, rfl, hx, hy, _, _, hb14⟩; have HX14 := hide hx.opsAt; have HY14 := hide hy.opsAt; have HB14 := hide (HB13.out.step hb14); have HM14 := hide (HM13.out.step hb14); have HW14 := hide (HW13.out.step hb14); clear hb14 hx hy p0 p1 p2 p3 p4 p5 r0 r1 r2 r3 r4 r5 r6 r7 r8 r9 r10 r11 r12 r13 r14 s0 s1 s2 s3 s4 s5 s6 s7 s8 s9 s10 s11 s12 s13 s14; obtain ⟨p0, p1, p2, p3, p4, p5⟩ := HB14.out.cells; obtain ⟨r0, r1, r2, r3, r4, r5, r6, r7, r8, r9, r10, r11, r12, r13, r14, _⟩ := HM14.out.fif.cells; obtain ⟨s0, s1, s2, s3, s4, s5, s6, s7, s8, s9, s10, s11, s12, s13, s14, _⟩ := HW14.out.fif.cells) | (go_at_call 12; (refine (HIM.out _ _ _ _ _ _ HQ1.out (Nat.le_refl _) HB14.out.2 HX14.out HY14.out).mono ?_); intro e w15 h15; obtain ⟨hl, ho, he, hL, hO, _, _, _, hb15⟩ := h15; unfold OutV.agg at he; subst he; have hbg : Below w15.heap.size w15 (w15.alloc (.cells #[.int .i64 x.cl.repl, .int .i64 x.cl.clock, .slice hl x.cl.log.length x.cl.log.length, .int .i64 x.cl.acked, .slice ho x.cl.out.length x.cl.out.length, .int .i64 x.cl.got, .int .i64 x.op.time, .int .i64 x.op.repl, .int .i64 x.op.kind, .int .i64 x.op.node, .int .i64 x.op.parent, .string x.op.name, .string x.op.value, .int .i64 x.many, .int .i64 x.code] 32)) := (Below.refl w15.heap.size w15).alloc (Nat.le_refl _) _; have HH15 := hide (Fif.new w15 x hl x.cl.log.length ho x.cl.out.length); have HHL := hide (hL.stays hbg); have HHO' := hide (hO.stays hbg); have HB15 := hide ((HB14.out.step hb15).step hbg); have HM15 := hide ((HM14.out.step hb15).step hbg); have HW15 := hide ((HW14.out.step hb15).step hbg); clear hb15 hbg hL hO p0 p1 p2 p3 p4 p5 r0 r1 r2 r3 r4 r5 r6 r7 r8 r9 r10 r11 r12 r13 r14 s0 s1 s2 s3 s4 s5 s6 s7 s8 s9 s10 s11 s12 s13 s14; obtain ⟨q0, q1, q2, q3, q4, q5, q6, q7, q8, q9, q10, q11, q12, q13, q14, _⟩ := HH15.out.cells; obtain ⟨r0, r1, r2, r3, r4, r5, r6, r7, r8, r9, r10, r11, r12, r13, r14, _⟩ := HM15.out.fif.cells; obtain ⟨s0, s1, s2, s3, s4, s5, s6, s7, s8, s9, s10, s11, s12, s13, s14, _⟩ := HW15.out.fif.cells) | (go_at_call 13; (refine (HEO.out _ _ _ _ _ _ _ _ _ HQ1.out HHL.out HHO'.out HW15.out.log.at_ HW15.out.out.at_).mono ?_); rintro e w16 ⟨rfl, hb16⟩; have HB16 := hide (HB15.out.step hb16); have HM16 := hide (HM15.out.step hb16); clear hb16 r0 r1 r2 r3 r4 r5 r6 r7 r8 r9 r10 r11 r12 r13 r14 s0 s1 s2 s3 s4 s5 s6 s7 s8 s9 s10 s11 s12 s13 s14 q0 q1 q2 q3 q4 q5 q6 q7 q8 q9 q10 q11 q12 q13 q14; obtain ⟨r0, r1, r2, r3, r4, r5, r6, r7, r8, r9, r10, r11, r12, r13, r14, _⟩ := HM16.out.fif.cells) | (go_at_call 17; (refine (HHO.out _ _ _ _ _ HQ1.out HM16.out.log HM16.out.out).mono ?_); rintro e w17 ⟨rfl, hb17⟩; have HB17 := hide (HB16.out.step hb17); clear hb17) | fail)
      all_goals (try (exfalso; omega))
      all_goals (
        go_ret
        exact ⟨rfl, HB17.out.2⟩)
end Go.Proofs.YtfkgmkcndchkjaaGreatDoor.OpR
