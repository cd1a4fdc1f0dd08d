/- Proves the walk of the law FnExactServerRight. -/
import Derived.Test.YtkfjommoogmehaaSrvH
import Derived.Test.YtkfjommoogmehaaSrvS
namespace Go.Proofs.Ytkfjommoogmehaa.OpR
open Go.ChangeShapes Go.WideShapes Go.ChangeAt Go.RowKit
set_option linter.unusedVariables false

set_option maxRecDepth 100000 in
set_option maxHeartbeats 1000000 in
theorem law_serverRight (w : World) (la : Option Addr) (lc : Nat) (sa : Option Addr) (sc : Nat) (s : SrvV) (hC : CameSv w la sa s) :
    Calls Try.prog 3 #[s.agg la lc sa sc] w fun e w' => e = .returned (.bool true) ∧ Below w.heap.size w w' := by
  have hsz := fun W (hW : Below w.heap.size w W) => szServer_any s la sa lc sc W hC.sz (hC.ops.stays hW)
  have hto := fun W (hz : SSz 1048576 s) (hW : Below w.heap.size w W) => toServer_any s la sa lc sc W hz (hC.ops.stays hW) (hC.seen.stays hW)
  have hsr := fun la sa lc sc W (hz : SSz 1048576 s) h1 h2 => sSrv_any s la sa lc sc W hC.sz.ops hC.sz.osz hz.seen h1 h2
  have hir := fun la sa lc sc W (hz : SSz 1048576 s) hlc h1 h2 => iSrv_any s la sa lc sc W hC.sz.ops hlc hC.sz.osz hz.seen h1 h2
  have heq := fun la sa lb sb lc sc ld sd W h1 h2 h3 h4 => eqServer_same s la sa lb sb lc sc ld sd W hC.sz.ops hC.sz.seen h1 h2 h3 h4
  have HB0 := hide (SL.new w s la lc sa sc)
  unfold SrvV.agg at *
  obtain ⟨R, hR⟩ : ∃ R, R = srvRight s := ⟨_, rfl⟩
  rw [← hR] at hsr hir
  have HSZ := hide hsz
  have HTO := hide hto
  have HSR := hide hsr
  have HIR := hide hir
  have HEQ := hide heq
  clear hsz hto hsr hir heq hR hC
  obtain ⟨p0, p1⟩ := HB0.out.cells
  have M1 : Hid True := ⟨trivial⟩
  have M2 : Hid True := ⟨trivial⟩
  go_enter Try.func3, Try.ntmps3
  go_wp2_with (first | (go_at_call 6; refine (HSZ.out _ HB0.out.below).mono ?_; rintro e w1 ⟨m, rfl, hm, hq, hb1⟩; have HQ := hide hq; have HB1 := hide (HB0.out.step hb1); clear p0 p1 hb1 hq; obtain ⟨p0, p1⟩ := HB1.out.cells) | (go_at_call 8; clear M1; have HQ1 := hide (HQ.out (by omega)); (refine (HTO.out _ HQ1.out HB1.out.below).mono ?_); rintro e w2 ⟨g1, g2, rfl, hx, hy, _, _, hb2⟩; have HX2 := hide hx.opsAt; have HY2 := hide hy.seensAt; have HB2 := hide (HB1.out.step hb2); clear p0 p1 hb2 hx hy HQ; obtain ⟨p0, p1⟩ := HB2.out.cells) | (go_at_call 7; (refine (HSR.out _ _ _ _ _ HQ1.out HX2.out HY2.out).mono ?_); rintro e w3 ⟨rfl, hb3⟩; have HB3 := hide (HB2.out.step hb3); clear p0 p1 hb3 HX2 HY2; obtain ⟨p0, p1⟩ := HB3.out.cells) | (go_at_call 8; clear M2; (refine (HTO.out _ HQ1.out HB3.out.below).mono ?_); rintro e w4 ⟨g3, g4, rfl, hx, hy, _, _, hb4⟩; have HX4 := hide hx; have HY4 := hide hy; have HB4 := hide (HB3.out.step hb4); clear p0 p1 hb4 hx hy; obtain ⟨p0, p1⟩ := HB4.out.cells) | (go_at_call 9; have hx0 := SB.new w4 s (some ⟨g3, 0, none⟩) s.ops.length (some ⟨g4, 0, none⟩) s.seen.length; have HX5 := hide (HX4.out.stays hx0.below); have HY5 := hide (HY4.out.stays hx0.below); have HB5 := hide (HB4.out.step hx0.below); (refine (HIR.out _ _ _ _ _ HQ1.out (Nat.le_refl _) HX5.out.opsAt HY5.out.seensAt).mono ?_); rintro e w6 ⟨rfl, hb6⟩; have HXV := hide (hx0.step hb6); have HX6 := hide (HX5.out.stays hb6); have HY6 := hide (HY5.out.stays hb6); have HB6 := hide (HB5.out.step hb6); clear p0 p1 hb6 hx0 HX4 HY4; obtain ⟨p0, p1⟩ := HB6.out.cells; obtain ⟨q0, q1⟩ := HXV.out.cells) | fail)
  · go_ret
    exact ⟨rfl, HB1.out.below⟩
  go_region_with (first | (go_at_call 8; (refine (HTO.out _ HQ1.out HB6.out.below.drew).mono ?_); rintro e w7 ⟨g7, g8, rfl, hx, hy, _, _, hb7⟩; have HX7 := hide hx.opsAt; have HY7 := hide hy.seensAt; have hq7 : Below w6.heap.size w6 w7 := ((Below.refl _ w6).drew).trans (hb7.mono (Nat.le_refl _)); have HB7 := hide (HB6.out.step hq7); have HXV7 := hide (HXV.out.step hq7); have HX8 := hide (HX6.out.stays hq7); have HY8 := hide (HY6.out.stays hq7); obtain ⟨q0, q1⟩ := HXV7.out.cells; clear hb7 hx hy) | (go_at_call 10; (refine (HEQ.out _ _ _ _ _ _ _ _ _ HX8.out.opsAt HY8.out.seensAt HX7.out HY7.out).mono ?_); rintro e w9 ⟨rfl, hb9⟩) | fail)
  all_goals (
    go_wp2
    go_ret
    exact ⟨rfl, (HB7.out.step hb9).below⟩)
end Go.Proofs.Ytkfjommoogmehaa.OpR
