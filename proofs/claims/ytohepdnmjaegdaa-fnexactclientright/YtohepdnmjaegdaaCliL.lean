/- Proves the walk of the law FnExactClientRight. -/
import Derived.Test.YtohepdnmjaegdaaCliH
import Derived.Test.YtohepdnmjaegdaaCliK
import Derived.Test.YtohepdnmjaegdaaCameC
namespace Go.Proofs.Ytohepdnmjaegdaa.OpR
open Go.ChangeShapes Go.WideShapes Go.ChangeAt Go.RowKit
set_option linter.unusedVariables false

set_option maxRecDepth 100000 in
set_option maxHeartbeats 1000000 in
theorem law_clientRight (w : World) (la : Option Addr) (lc : Nat) (oa : Option Addr) (oc : Nat) (c : CliV) (hC : CameCli w la oa c) :
    Calls Try.prog 4 #[c.agg la lc oa oc] w fun e w' => e = .returned (.bool true) ∧ Below w.heap.size w w' := by
  have hsz := fun W (hW : Below w.heap.size w W) => szClient_any c la oa lc oc W hC.sz (hC.log.stays hW) (hC.out.stays hW)
  have hto := fun W (hz : CSz 1048576 c) (hW : Below w.heap.size w W) => toClient_any c la oa lc oc W hz (hC.log.stays hW) (hC.out.stays hW)
  have hsr := fun la oa lc oc W h1 h2 => sRight_any c la oa lc oc W hC.sz h1 h2
  have hir := fun la oa lc oc W h1 h2 => iClientRight_any c la oa lc oc W hC.sz h1 h2
  have heq := fun la oa lb ob lc oc ld od W h1 h2 h3 h4 => eqClient_same c la oa lb ob lc oc ld od W hC.sz.log hC.sz.out h1 h2 h3 h4
  have HB0 := hide (CliBox.new w 31 c la lc oa oc)
  unfold CliV.agg at *
  obtain ⟨R, hR⟩ : ∃ R, R = cliRight c := ⟨_, rfl⟩
  rw [← hR] at hsr hir
  have HSZ := hide hsz
  have HTO := hide hto
  have HSR := hide hsr
  have HIR := hide hir
  have HEQ := hide heq
  clear hsz hto hsr hir heq hR
  obtain ⟨p0, p1, p2, p3, p4, p5⟩ := HB0.out.cells
  have M1 : Hid True := ⟨trivial⟩
  have M2 : Hid True := ⟨trivial⟩
  go_enter Try.func4, Try.ntmps4
  go_wp2_with (first | (go_at_call 10; refine (HSZ.out _ HB0.out.2).mono ?_; rintro e w1 ⟨m, rfl, hm, hq, hb1⟩; have HQ := hide hq; have HB1 := hide (HB0.out.step hb1); clear p0 p1 p2 p3 p4 p5 hb1 hq; obtain ⟨p0, p1, p2, p3, p4, p5⟩ := HB1.out.cells) | (go_at_call 12; clear M1; have HQ1 := hide (HQ.out (by omega)); (refine (HTO.out _ HQ1.out HB1.out.2).mono ?_); rintro e w2 ⟨g1, g2, rfl, hx, hy, _, _, hb2⟩; have HX2 := hide hx.opsAt; have HY2 := hide hy.opsAt; have HB2 := hide (HB1.out.step hb2); clear p0 p1 p2 p3 p4 p5 hb2 hx hy HQ; obtain ⟨p0, p1, p2, p3, p4, p5⟩ := HB2.out.cells) | (go_at_call 11; (refine (HSR.out _ _ _ _ _ HX2.out HY2.out).mono ?_); rintro e w3 ⟨rfl, hb3⟩; have HB3 := hide (HB2.out.step hb3); clear p0 p1 p2 p3 p4 p5 hb3 HX2 HY2; obtain ⟨p0, p1, p2, p3, p4, p5⟩ := HB3.out.cells) | (go_at_call 12; clear M2; (refine (HTO.out _ HQ1.out HB3.out.2).mono ?_); rintro e w4 ⟨g3, g4, rfl, hx, hy, _, _, hb4⟩; have HX4 := hide hx; have HY4 := hide hy; have HB4 := hide (HB3.out.step hb4); clear p0 p1 p2 p3 p4 p5 hb4 hx hy; obtain ⟨p0, p1, p2, p3, p4, p5⟩ := HB4.out.cells) | (go_at_call 13; have hx0 : CliBox w4 (w4.alloc (.cells #[.int .i64 c.repl, .int .i64 c.clock, .slice (some ⟨g3, 0, none⟩) c.log.length c.log.length, .int .i64 c.acked, .slice (some ⟨g4, 0, none⟩) c.out.length c.out.length, .int .i64 c.got] 24)) w4.heap.size 24 c (some ⟨g3, 0, none⟩) c.log.length (some ⟨g4, 0, none⟩) c.out.length := CliBox.new w4 _ c _ _ _ _; have HX5 := hide (HX4.out.stays hx0.2); have HY5 := hide (HY4.out.stays hx0.2); have HB5 := hide (HB4.out.step hx0.2); (refine (HIR.out _ _ _ _ _ HX5.out.opsAt HY5.out.opsAt).mono ?_); rintro e w6 ⟨rfl, hb6⟩; have HXV := hide (hx0.step hb6); have HX6 := hide (HX5.out.stays hb6); have HY6 := hide (HY5.out.stays hb6); have HB6 := hide (HB5.out.step hb6); clear p0 p1 p2 p3 p4 p5 hb6 hx0 HX4 HY4; obtain ⟨p0, p1, p2, p3, p4, p5⟩ := HB6.out.cells; obtain ⟨q0, q1, q2, q3, q4, q5⟩ := HXV.out.cells))
  · go_ret
    exact ⟨rfl, HB1.out.2⟩
  have hz4 := HB4.out.2.size
  go_region_with (first | (go_at_call 12; (refine (HTO.out _ HQ1.out HB6.out.2.drew).mono ?_); rintro e w7 ⟨g7, g8, rfl, hx, hy, _, _, hb7⟩; have hd7 := (drewN_below w6 0); have HX7 := hide hx.opsAt; have HY7 := hide hy.opsAt; have hq7 : Below w6.heap.size w6 w7 := ((Below.refl _ w6).drew).trans (hb7.mono (Nat.le_refl _)); have HB7 := hide (HB6.out.step hq7); have HXV7 := hide (HXV.out.step hq7); have HX8 := hide (HX6.out.stays hq7); have HY8 := hide (HY6.out.stays hq7); obtain ⟨q0, q1, q2, q3, q4, q5⟩ := HXV7.out.cells; clear hb7 hx hy) | (go_at_call 7; (refine (HEQ.out _ _ _ _ _ _ _ _ _ HX8.out.opsAt HY8.out.opsAt HX7.out HY7.out).mono ?_); rintro e w9 ⟨rfl, hb9⟩))
  all_goals (
    go_wp2
    go_ret
    exact ⟨rfl, (HB7.out.step hb9).2⟩)
end Go.Proofs.Ytohepdnmjaegdaa.OpR
