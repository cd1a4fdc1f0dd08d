/- Proves what spec.Upload answers where it takes. Proves what spec.Upload answers where it takes. Proves what spec.Upload answers where it takes. Proves what spec.Upload answers. -/
import Derived.Test.YtdjjpaleemnikaaUaC
namespace Go.Proofs.Ytdjjpaleemnikaa.OpR
open Go.ChangeShapes Go.WideShapes Go.ChangeAt Go.RowKit
set_option linter.unusedVariables false

set_option maxRecDepth 100000 in
set_option maxHeartbeats 4000000 in
theorem sUp_ok_a (s : SrvV) (b off lc : Nat) (sa : Option Addr) (sc : Nat) (r fr : Int) (l : List OpV) (bl ol cl : Nat) (w : World) (hz : SSz 1048576 s) (hlc : s.ops.length ≤ lc) (hA : OpsAt w (some ⟨b, off, none⟩) s.ops) (hB : SeensAt w sa s.seen) (hll : l.length ≤ 1048576) (hcl : l.length ≤ cl) (hL : OpsAt w (some ⟨bl, ol, none⟩) l) (hLz : Sized l) (h1 : ¬ 400 < l.length) (f0 : srvRight s = true) (f1 : opsRight l = true) (f2 : rises l = true) (f3 : isIn r 1 50 = true) (f4 : decide (0 ≤ fr) = true) (f5 : allB l r = true) (n : Int) (hn : seenMany s.seen r = n) (hnf : ¬ n < fr) (hn0 : 0 ≤ n ∧ n ≤ 150) (own more : List OpV) (hown : ownB s.ops r = own) (hmo : more = freshOps n fr l) (hc : more = []) (hf0 : 0 ≤ fr) (hll4 : l.length ≤ 400) (hfu : ¬ 150 < s.ops.length + more.length) (z : List OpV) (zz : List SeenV) (N9 : Int) (hz1 : z = s.ops ++ more) (hN9 : n + (more.length : Int) = N9) (hsee : ∀ W b off cap, s.seen.length ≤ cap → SeensAt W (some ⟨b, off, none⟩) s.seen → Calls Try.prog 34 #[.slice (some ⟨b, off, none⟩) s.seen.length cap, .agg #[.int .i64 r, .int .i64 N9]] W fun e w' => ∃ v, e = .returned v ∧ w'.ownsRow W.heap.size 67 2 v zz.length (flatG SeenV.cells zz) ∧ Below W.heap.size W w') : Calls Try.prog 7 #[s.agg (some ⟨b, off, none⟩) lc sa sc, .int .i64 r, .int .i64 fr, .slice (some ⟨bl, ol, none⟩) l.length cl] w fun e w' => SvT w w' e ⟨⟨z, zz⟩, [], N9, 0⟩ := by
  have hopl : s.ops.length ≤ 150 := ((srv_iff s).1 f0).ops.1
  have hmol : more.length ≤ 400 := by rw [hmo]; unfold freshOps; rw [List.length_drop]; omega
  have HWL := hide (show wrap64 ((s.ops.length : Int) + (more.length : Int)) = (s.ops.length : Int) + (more.length : Int) by unfold wrap64; omega)
  have HWL2 := hide (show IntKind.i64.wrap ((s.ops.length : Int) + (more.length : Int)) = (s.ops.length : Int) + (more.length : Int) by rw [IntKind.wrap_i64]; omega)
  have d7 : decide (150 < s.ops.length + more.length) = false := by simpa using hfu
  have d8 : decide ((150 : Int) < (s.ops.length : Int) + (more.length : Int)) = false := by simp; omega
  have HWN := hide (show wrap64 (n + (more.length : Int)) = N9 by unfold wrap64; omega)
  have HWN2 := hide (show IntKind.i64.wrap (n + (more.length : Int)) = N9 by rw [IntKind.wrap_i64]; omega)
  have hcp := fun W (hW : Below w.heap.size w W) => sCopy_any s (some ⟨b, off, none⟩) sa lc sc W (by omega) hz.seen (hA.stays hW) (hB.stays hW)
  have HCp := hide hcp
  have HSee := hide hsee
  have HZ1 := hide hz1
  have HLm := hide (show s.ops.length + more.length ≤ 150 by omega)
  clear hcp hsee hz1 hN9 hfu
  have hr := fun W (hW : Below w.heap.size w W) => sSrv_any s (some ⟨b, off, none⟩) sa lc sc W (Nat.le_trans hz.ops (by unfold maxLen; omega)) (fun o ho => ⟨Nat.le_trans (hz.osz o ho).1 (by unfold maxLen; omega), Nat.le_trans (hz.osz o ho).2 (by unfold maxLen; omega)⟩) hz.seen (hA.stays hW) (hB.stays hW)
  have ho := fun W (hW : Below w.heap.size w W) => sOps_any l (some ⟨bl, ol, none⟩) cl W (Nat.le_trans hll (by unfold maxLen; omega)) (hL.stays hW) hLz
  have hi := fun W (hW : Below w.heap.size w W) => rises_any l (some ⟨bl, ol, none⟩) cl W (Nat.le_trans hll (by unfold maxLen; omega)) (hL.stays hW)
  have he := fun W => sRepl_any r W
  have hB0 := SD.start w s (some ⟨b, off, none⟩) lc sa sc
  have HB0 := hide hB0
  have HL := hide hL
  obtain ⟨p0, p1⟩ := hB0.sb.cells
  have d1 : decide (400 < l.length) = false := by simpa using h1
  rw [f0] at hr
  rw [f1] at ho
  rw [f2] at hi
  rw [f3] at he
  have hmn := fun W (hW : Below w.heap.size w W) => sMany_any s (some ⟨b, off, none⟩) sa lc sc r W hz.seen (hB.stays hW)
  rw [hn] at hmn
  have hsr150 := ((srv_iff s).1 f0).ops.1
  have how := fun W (hW : Below w.heap.size w W) => sOwn_any s.ops (some ⟨b, off, none⟩) lc r W hsr150 (hA.stays hW)
  rw [hown] at how
  have dn : decide (n < fr) = false := by simpa using hnf
  obtain ⟨k9, hk9⟩ : ∃ k : Nat, min (l.length : Int) (n - fr) = (k : Int) := ⟨(min (l.length : Int) (n - fr)).toNat, by omega⟩
  have hkl : k9 ≤ l.length := by omega
  have hwr : wrap64 (n - fr) = n - fr := by unfold wrap64; omega
  obtain ⟨o2, ho2⟩ : ∃ o2, o2 = fromOff ol cl k9 := ⟨_, rfl⟩
  have hmo2 : more = l.drop k9 := by rw [hmo]; unfold freshOps; rw [show min (n - fr) (l.length : Int) = (k9 : Int) by omega]; rfl
  have hml : l.length - k9 = more.length := by rw [hmo2, List.length_drop]
  have hsl := fun W => slice_from W bl ol l.length cl k9 (k9 : Int) rfl hkl
  rw [← ho2, hml] at hsl
  have hat9 : ∀ W, Below w.heap.size w W → OpsAt W (some ⟨bl, o2, none⟩) more := fun W hW => by rw [ho2, hmo2]; exact (hL.stays hW).from k9 hcl
  have HAt9 := hide hat9
  have HOw := hide how
  have HMn := hide hmn
  have HR := hide hr
  have HO := hide ho
  have HI := hide hi
  have HE := hide he
  have hownl : own.length ≤ 150 := by rw [← hown]; have := own_len s.ops r; omega
  unfold SrvV.agg at *
  clear hr ho hi he hB0 hA hB hz hL hLz hmn hn hnf how hown hmo hmo2 ho2 hat9 hsr150
  have d4 : decide (0 < more.length) = false := by rw [hc]; rfl
  clear hc

  go_enter Try.func7, Try.ntmps7
  go_wp2_with (first | (go_at_call 25; (refine (HR.out _ HB0.out.sb.below).mono ?_); rintro e w1 ⟨rfl, hb⟩; have hB1 := HB0.out.step hb; have HB1 := hide hB1; clear p0 p1 hb; obtain ⟨p0, p1⟩ := hB1.sb.cells; clear hB1) | (go_at_call 26; (refine (HO.out _ HB1.out.sb.below).mono ?_); rintro e w2 ⟨rfl, hb⟩; have hB1 := HB1.out.step hb; have HB2 := hide hB1; clear p0 p1 hb; obtain ⟨p0, p1⟩ := hB1.sb.cells; clear hB1) | (go_at_call 27; (refine (HI.out _ HB2.out.sb.below).mono ?_); rintro e w3 ⟨rfl, hb⟩; have hB1 := HB2.out.step hb; have HB3 := hide hB1; clear p0 p1 hb; obtain ⟨p0, p1⟩ := hB1.sb.cells; clear hB1) | (go_at_call 28; (refine (HE.out _).mono ?_); rintro e w4 ⟨rfl, rfl⟩) | fail)
  clear p0 p1
  go_loopw [9, 10] (fun a i wr => ∃ k : Nat, k ≤ l.length ∧ i = .int .i64 k ∧ a = .bool (allB (l.take k) r) ∧ SD w wr s (some ⟨b, off, none⟩) lc sa sc) (fun _ i _ => l.length - (intOf i).toNat)
  case atStart => exact ⟨0, by omega, rfl, by rfl, HB3.out⟩
  case round =>
    obtain ⟨k, hk, rfl, rfl, hSD⟩ := hrel
    have HSD := hide hSD
    obtain ⟨p0, p1⟩ := hSD.sb.cells
    obtain ⟨r0, r1, r2, r3, r4, fr_⟩ := five_ hSD.res
    by_cases h : k < l.length
    · have dk : decide (k < l.length) = true := by simpa using h
      obtain ⟨b', off', eb, hlt, hs0⟩ := HL.out k h
      cases eb
      obtain ⟨c0, c1, c2, c3, c4, c5, c6⟩ := hs0.block (w' := wr) (hSD.sb.below.block bl hlt)
      have hi0 : (0 : Int) ≤ (k : Int) := by omega
      have hi1 : (k : Int) < (l.length : Int) := by omega
      have hat := hide (allB_take h r)
      clear hSD hs0
      cases ha : allB (l.take k) r
      · have HAl := hide ha
        go_wp2
        go_roundw
        case rel => exact ⟨k + 1, by omega, by go_num, by rw [hat.out, HAl.out]; rfl, HSD.out⟩
        case measure => simp [intOf]; omega
      · have HAl := hide ha
        cases hq : (l[k].repl == r)
        · have HQ := hide hq
          go_wp2
          go_roundw
          case rel => exact ⟨k + 1, by omega, by go_num, by rw [hat.out, HAl.out, HQ.out]; rfl, HSD.out⟩
          case measure => simp [intOf]; omega
        · have HQ := hide hq
          go_wp2
          go_roundw
          case rel => exact ⟨k + 1, by omega, by go_num, by rw [hat.out, HAl.out, HQ.out]; rfl, HSD.out⟩
          case measure => simp [intOf]; omega
    · obtain rfl : k = l.length := by omega
      have dk : decide (l.length < l.length) = false := by simp
      have dt : allB (l.take l.length) r = true := by rw [List.take_length]; exact f5
      clear hSD
      go_wp2_with (first | (go_at_call 29; (refine (HMn.out _ HSD.out.sb.below).mono ?_); rintro e wm ⟨rfl, hbm⟩; have hBm := HSD.out.step hbm; have HBm := hide hBm; clear p0 p1 r0 r1 r2 r3 r4 fr_ hbm; obtain ⟨p0, p1⟩ := hBm.sb.cells; obtain ⟨r0, r1, r2, r3, r4, fr_⟩ := five_ hBm.res; clear hBm) | (go_at_call 30; (refine (sMin2_any _ _ _).mono ?_); rintro e wn ⟨rfl, rfl⟩) | (go_at_call 31; (refine (HOw.out _ HBm.out.sb.below).mono ?_); rintro e wo ⟨vo, rfl, hoo, hbo⟩; obtain ⟨g2, c2, rfl, hg2, hlt2, hcc2, hcm2, hat2⟩ := hoo.at; have hBo := HBm.out.step hbo; have HBo := hide hBo; have HOo := hide (And.intro hg2 hat2); clear p0 p1 r0 r1 r2 r3 r4 fr_ hoo hbo hg2 hat2 hcc2 hcm2; obtain ⟨p0, p1⟩ := hBo.sb.cells; obtain ⟨r0, r1, r2, r3, r4, fr_⟩ := five_ hBo.res; clear hBo) | fail)
      have hS1 : SLt w wo s (some ⟨b, off, none⟩) lc sa sc g2 own bl o2 more := ⟨HBo.out, HOo.out.2, HAt9.out _ HBo.out.sb.below⟩
      have HSd := hide (hS1.step (Below.refl _ _).drew)
      haveI : Nonempty (ClsW fun W => SLt w W s (some ⟨b, off, none⟩) lc sa sc g2 own bl o2 more) := ⟨⟨_, hS1⟩⟩
      clear hS1 p0 p1 r0 r1 r2 r3 r4 fr_
      refine region_class (ι := (ClsW fun W => SLt w W s (some ⟨b, off, none⟩) lc sa sc g2 own bl o2 more)) ClsW.wd (by kernel_rfl) (by kernel_rfl) ⟨_, HSd.out⟩ rfl ?_
      repeat (go_big_quiet_step (fail))
      refine wpQuiet_nil ?_
      rintro _ ⟨⟨w5, hV5⟩, rfl⟩
      have HV := hide hV5
      clear hV5
      have hwl := HWL.out
      have hwl2 := HWL2.out
      have hwn := HWN.out
      have hwn2 := HWN2.out
      obtain ⟨p0, p1⟩ := HV.out.sd.sb.cells
      obtain ⟨r0, r1, r2, r3, r4, fr_⟩ := five_ HV.out.sd.res
      go_wp2_with (first | (go_at_call 33; (refine (HCp.out _ HV.out.sd.sb.below).mono ?_); intro e wc hc9; obtain ⟨_, ca, _, cb, ⟨ga, rfl⟩, ⟨gb, rfl⟩, rfl, hoa, hob, hne9, hbc⟩ := hc9; have hU := SU.new (HV.out.sd.step hbc) (.slice (some ⟨ga, 0, none⟩) s.ops.length ca) (.slice (some ⟨gb, 0, none⟩) s.seen.length cb); have HU := hide hU; have HOa := hide hoa; have HOb := hide hob; have HNe := hide (hne9 _ _ rfl rfl); have HBc := hide hbc; clear p0 p1 r0 r1 r2 r3 r4 fr_ hoa hob hne9 hbc; obtain ⟨p0, p1⟩ := hU.sd.sb.cells; obtain ⟨b0, b1, bf⟩ := hU.two_; obtain ⟨r0, r1, r2, r3, r4, fr_⟩ := five_ hU.sd.res; clear hU) | (at_builtin; (refine wpList_append_ops rfl _ _ rfl _ _ s.ops rfl (HOa.out.alloc _) (some ⟨bl, o2, none⟩) more _ rfl (HAt9.out _ HU.out.sd.sb.below) (by have := HLm.out; clear hwl hwl2 hwn hwn2; omega) (Nat.le_trans HBc.out.size (base_alloc _ _)) ?_); intro v2 w2 ho2 hg2 hn2; have hla9 := HOa.out.lt ga rfl; have hsz9 := HV.out.sd.lt; have hgg2 : World.grownBy _ w2 (some ga) := hg2; have hU2 := HU.out.gr hgg2 (by clear hwl hwl2 hwn hwn2; omega) (by clear hwl hwl2 hwn hwn2; omega); rw [← HZ1.out] at ho2; obtain ⟨a2, c2, rfl, _, hat2⟩ := owns_at ho2; have hne2 := owns_ne ho2 hU2.box (by decide); obtain ⟨_, _, e9, hcb9, hse9⟩ := owns_atE HOb.out; cases e9; have hlb9 := HOb.out.lt gb rfl; have hse2 := seens_grown (hse9.stays (balloc wc _)) hg2 (fun a e => (by cases e; exact Nat.lt_of_lt_of_le hlb9.2 (base_alloc _ _))) (fun a e e2 => (by cases e; cases e2; exact HNe.out rfl)); have hU3 := hU2.set0 (.slice a2 z.length c2); have HU3 := hide hU3; have HS3 := hide (And.intro hcb9 (seens_setP (i := 0) (v := .slice a2 z.length c2) hse2 (fun a e => (by cases e; show gb ≠ wc.heap.size; clear hwl hwl2 hwn hwn2; omega)))); have HA3 := hide (And.intro (ops_setP (i := 0) (v := .slice a2 z.length c2) hat2 (fun x e => (hne2 x e).2.1)) (fun x e => And.intro (Nat.le_trans hsz9 (hne2 x e).1) (hne2 x e).2.1)); clear p0 p1 r0 r1 r2 r3 r4 fr_ b0 b1 bf ho2 hg2 hgg2 hn2 hla9 hsz9 hat2 hne2 hcb9 hse9 hlb9 hse2; obtain ⟨b0, b1, bf⟩ := hU2.two_; obtain ⟨b0s, b1s, bfs⟩ := hU3.two_; clear hU2 hU3) | (go_at_call 34; (refine (HSee.out _ _ _ _ HS3.out.1 HS3.out.2).mono ?_); rintro e w4 ⟨v4, rfl, ho4, hb4⟩; have hU4 := HU3.out.step hb4; obtain ⟨a4, c4, rfl, _, hat4⟩ := owns_atE ho4; have hlt4 := HU3.out.lt; have hlo4 := (fun x (e : a4 = some x) => (ho4.lt x.block (by rw [e]; rfl)).1); have hU5 := hU4.set1 (.slice a4 zz.length c4); have HU5 := hide hU5; have HE4 := hide (And.intro (seens_setP (i := 1) (v := .slice a4 zz.length c4) hat4 (fun x e => Nat.ne_of_gt (Nat.lt_of_lt_of_le hlt4 (hlo4 x e)))) (fun x e => Nat.lt_of_lt_of_le hlt4 (hlo4 x e))); have HA4 := hide (ops_setP (i := 1) (v := .slice a4 zz.length c4) (HA3.out.1.stays hb4) (fun x e => (HA3.out.2 x e).2)); clear b0 b1 bf b0s b1s bfs ho4 hb4 hat4 hlt4 hlo4; obtain ⟨b0, b1, bf⟩ := hU4.two_; obtain ⟨b0s, b1s, bfs⟩ := hU5.two_; obtain ⟨r0, r1, r2, r3, r4, fr_⟩ := five_ hU5.sd.res; clear hU4 hU5) | fail)
      have hBB := HU5.out.hB
      refine bodyPost_ret (v := .agg #[.slice a2 z.length c2, .slice a4 zz.length c4, .slice none 0 0, .int .i64 N9, .int .i64 0]) (by simp [results, Try.results7, go_sem, r0, r1, r2, r3, r4]) rfl ⟨a2, c2, a4, c4, none, 0, rfl, ops5 HA4.out (fun x e => by have := (HA3.out.2 x e).1; clear hwl hwl2 hwn hwn2; omega) _ _ _ _ _, seens5 HE4.out.1 (fun x e => by have := HE4.out.2 x e; clear hwl hwl2 hwn hwn2; omega) _ _ _ _ _, no_ops, below5 HU5.out.sd.sb.below (by clear hwl hwl2 hwn hwn2; omega) _ _ _ _ _⟩
end Go.Proofs.Ytdjjpaleemnikaa.OpR
namespace Go.Proofs.Ytdjjpaleemnikaa.OpR
open Go.ChangeShapes Go.WideShapes Go.ChangeAt Go.RowKit
set_option linter.unusedVariables false

set_option maxRecDepth 100000 in
set_option maxHeartbeats 4000000 in
theorem sUp_ok_b (s : SrvV) (b off lc : Nat) (sa : Option Addr) (sc : Nat) (r fr : Int) (l : List OpV) (bl ol cl : Nat) (w : World) (hz : SSz 1048576 s) (hlc : s.ops.length ≤ lc) (hA : OpsAt w (some ⟨b, off, none⟩) s.ops) (hB : SeensAt w sa s.seen) (hll : l.length ≤ 1048576) (hcl : l.length ≤ cl) (hL : OpsAt w (some ⟨bl, ol, none⟩) l) (hLz : Sized l) (h1 : ¬ 400 < l.length) (f0 : srvRight s = true) (f1 : opsRight l = true) (f2 : rises l = true) (f3 : isIn r 1 50 = true) (f4 : decide (0 ≤ fr) = true) (f5 : allB l r = true) (n : Int) (hn : seenMany s.seen r = n) (hnf : ¬ n < fr) (hn0 : 0 ≤ n ∧ n ≤ 150) (own more : List OpV) (hown : ownB s.ops r = own) (hmo : more = freshOps n fr l) (hm0 : 0 < more.length) (hc : own = []) (hf0 : 0 ≤ fr) (hll4 : l.length ≤ 400) (hfu : ¬ 150 < s.ops.length + more.length) (z : List OpV) (zz : List SeenV) (N9 : Int) (hz1 : z = s.ops ++ more) (hN9 : n + (more.length : Int) = N9) (hsee : ∀ W b off cap, s.seen.length ≤ cap → SeensAt W (some ⟨b, off, none⟩) s.seen → Calls Try.prog 34 #[.slice (some ⟨b, off, none⟩) s.seen.length cap, .agg #[.int .i64 r, .int .i64 N9]] W fun e w' => ∃ v, e = .returned v ∧ w'.ownsRow W.heap.size 67 2 v zz.length (flatG SeenV.cells zz) ∧ Below W.heap.size W w') : Calls Try.prog 7 #[s.agg (some ⟨b, off, none⟩) lc sa sc, .int .i64 r, .int .i64 fr, .slice (some ⟨bl, ol, none⟩) l.length cl] w fun e w' => SvT w w' e ⟨⟨z, zz⟩, [], N9, 0⟩ := by
  have hopl : s.ops.length ≤ 150 := ((srv_iff s).1 f0).ops.1
  have hmol : more.length ≤ 400 := by rw [hmo]; unfold freshOps; rw [List.length_drop]; omega
  have HWL := hide (show wrap64 ((s.ops.length : Int) + (more.length : Int)) = (s.ops.length : Int) + (more.length : Int) by unfold wrap64; omega)
  have HWL2 := hide (show IntKind.i64.wrap ((s.ops.length : Int) + (more.length : Int)) = (s.ops.length : Int) + (more.length : Int) by rw [IntKind.wrap_i64]; omega)
  have d7 : decide (150 < s.ops.length + more.length) = false := by simpa using hfu
  have d8 : decide ((150 : Int) < (s.ops.length : Int) + (more.length : Int)) = false := by simp; omega
  have HWN := hide (show wrap64 (n + (more.length : Int)) = N9 by unfold wrap64; omega)
  have HWN2 := hide (show IntKind.i64.wrap (n + (more.length : Int)) = N9 by rw [IntKind.wrap_i64]; omega)
  have hcp := fun W (hW : Below w.heap.size w W) => sCopy_any s (some ⟨b, off, none⟩) sa lc sc W (by omega) hz.seen (hA.stays hW) (hB.stays hW)
  have HCp := hide hcp
  have HSee := hide hsee
  have HZ1 := hide hz1
  have HLm := hide (show s.ops.length + more.length ≤ 150 by omega)
  clear hcp hsee hz1 hN9 hfu
  have hr := fun W (hW : Below w.heap.size w W) => sSrv_any s (some ⟨b, off, none⟩) sa lc sc W (Nat.le_trans hz.ops (by unfold maxLen; omega)) (fun o ho => ⟨Nat.le_trans (hz.osz o ho).1 (by unfold maxLen; omega), Nat.le_trans (hz.osz o ho).2 (by unfold maxLen; omega)⟩) hz.seen (hA.stays hW) (hB.stays hW)
  have ho := fun W (hW : Below w.heap.size w W) => sOps_any l (some ⟨bl, ol, none⟩) cl W (Nat.le_trans hll (by unfold maxLen; omega)) (hL.stays hW) hLz
  have hi := fun W (hW : Below w.heap.size w W) => rises_any l (some ⟨bl, ol, none⟩) cl W (Nat.le_trans hll (by unfold maxLen; omega)) (hL.stays hW)
  have he := fun W => sRepl_any r W
  have hB0 := SD.start w s (some ⟨b, off, none⟩) lc sa sc
  have HB0 := hide hB0
  have HL := hide hL
  obtain ⟨p0, p1⟩ := hB0.sb.cells
  have d1 : decide (400 < l.length) = false := by simpa using h1
  rw [f0] at hr
  rw [f1] at ho
  rw [f2] at hi
  rw [f3] at he
  have hmn := fun W (hW : Below w.heap.size w W) => sMany_any s (some ⟨b, off, none⟩) sa lc sc r W hz.seen (hB.stays hW)
  rw [hn] at hmn
  have hsr150 := ((srv_iff s).1 f0).ops.1
  have how := fun W (hW : Below w.heap.size w W) => sOwn_any s.ops (some ⟨b, off, none⟩) lc r W hsr150 (hA.stays hW)
  rw [hown] at how
  have dn : decide (n < fr) = false := by simpa using hnf
  obtain ⟨k9, hk9⟩ : ∃ k : Nat, min (l.length : Int) (n - fr) = (k : Int) := ⟨(min (l.length : Int) (n - fr)).toNat, by omega⟩
  have hkl : k9 ≤ l.length := by omega
  have hwr : wrap64 (n - fr) = n - fr := by unfold wrap64; omega
  obtain ⟨o2, ho2⟩ : ∃ o2, o2 = fromOff ol cl k9 := ⟨_, rfl⟩
  have hmo2 : more = l.drop k9 := by rw [hmo]; unfold freshOps; rw [show min (n - fr) (l.length : Int) = (k9 : Int) by omega]; rfl
  have hml : l.length - k9 = more.length := by rw [hmo2, List.length_drop]
  have hsl := fun W => slice_from W bl ol l.length cl k9 (k9 : Int) rfl hkl
  rw [← ho2, hml] at hsl
  have hat9 : ∀ W, Below w.heap.size w W → OpsAt W (some ⟨bl, o2, none⟩) more := fun W hW => by rw [ho2, hmo2]; exact (hL.stays hW).from k9 hcl
  have HAt9 := hide hat9
  have HOw := hide how
  have HMn := hide hmn
  have HR := hide hr
  have HO := hide ho
  have HI := hide hi
  have HE := hide he
  have hownl : own.length ≤ 150 := by rw [← hown]; have := own_len s.ops r; omega
  unfold SrvV.agg at *
  clear hr ho hi he hB0 hA hB hz hL hLz hmn hn hnf how hown hmo hmo2 ho2 hat9 hsr150
  have d4 : decide (0 < more.length) = true := by simpa using hm0
  have d6 : decide (0 < own.length) = false := by rw [hc]; rfl
  clear hc

  go_enter Try.func7, Try.ntmps7
  go_wp2_with (first | (go_at_call 25; (refine (HR.out _ HB0.out.sb.below).mono ?_); rintro e w1 ⟨rfl, hb⟩; have hB1 := HB0.out.step hb; have HB1 := hide hB1; clear p0 p1 hb; obtain ⟨p0, p1⟩ := hB1.sb.cells; clear hB1) | (go_at_call 26; (refine (HO.out _ HB1.out.sb.below).mono ?_); rintro e w2 ⟨rfl, hb⟩; have hB1 := HB1.out.step hb; have HB2 := hide hB1; clear p0 p1 hb; obtain ⟨p0, p1⟩ := hB1.sb.cells; clear hB1) | (go_at_call 27; (refine (HI.out _ HB2.out.sb.below).mono ?_); rintro e w3 ⟨rfl, hb⟩; have hB1 := HB2.out.step hb; have HB3 := hide hB1; clear p0 p1 hb; obtain ⟨p0, p1⟩ := hB1.sb.cells; clear hB1) | (go_at_call 28; (refine (HE.out _).mono ?_); rintro e w4 ⟨rfl, rfl⟩) | fail)
  clear p0 p1
  go_loopw [9, 10] (fun a i wr => ∃ k : Nat, k ≤ l.length ∧ i = .int .i64 k ∧ a = .bool (allB (l.take k) r) ∧ SD w wr s (some ⟨b, off, none⟩) lc sa sc) (fun _ i _ => l.length - (intOf i).toNat)
  case atStart => exact ⟨0, by omega, rfl, by rfl, HB3.out⟩
  case round =>
    obtain ⟨k, hk, rfl, rfl, hSD⟩ := hrel
    have HSD := hide hSD
    obtain ⟨p0, p1⟩ := hSD.sb.cells
    obtain ⟨r0, r1, r2, r3, r4, fr_⟩ := five_ hSD.res
    by_cases h : k < l.length
    · have dk : decide (k < l.length) = true := by simpa using h
      obtain ⟨b', off', eb, hlt, hs0⟩ := HL.out k h
      cases eb
      obtain ⟨c0, c1, c2, c3, c4, c5, c6⟩ := hs0.block (w' := wr) (hSD.sb.below.block bl hlt)
      have hi0 : (0 : Int) ≤ (k : Int) := by omega
      have hi1 : (k : Int) < (l.length : Int) := by omega
      have hat := hide (allB_take h r)
      clear hSD hs0
      cases ha : allB (l.take k) r
      · have HAl := hide ha
        go_wp2
        go_roundw
        case rel => exact ⟨k + 1, by omega, by go_num, by rw [hat.out, HAl.out]; rfl, HSD.out⟩
        case measure => simp [intOf]; omega
      · have HAl := hide ha
        cases hq : (l[k].repl == r)
        · have HQ := hide hq
          go_wp2
          go_roundw
          case rel => exact ⟨k + 1, by omega, by go_num, by rw [hat.out, HAl.out, HQ.out]; rfl, HSD.out⟩
          case measure => simp [intOf]; omega
        · have HQ := hide hq
          go_wp2
          go_roundw
          case rel => exact ⟨k + 1, by omega, by go_num, by rw [hat.out, HAl.out, HQ.out]; rfl, HSD.out⟩
          case measure => simp [intOf]; omega
    · obtain rfl : k = l.length := by omega
      have dk : decide (l.length < l.length) = false := by simp
      have dt : allB (l.take l.length) r = true := by rw [List.take_length]; exact f5
      clear hSD
      go_wp2_with (first | (go_at_call 29; (refine (HMn.out _ HSD.out.sb.below).mono ?_); rintro e wm ⟨rfl, hbm⟩; have hBm := HSD.out.step hbm; have HBm := hide hBm; clear p0 p1 r0 r1 r2 r3 r4 fr_ hbm; obtain ⟨p0, p1⟩ := hBm.sb.cells; obtain ⟨r0, r1, r2, r3, r4, fr_⟩ := five_ hBm.res; clear hBm) | (go_at_call 30; (refine (sMin2_any _ _ _).mono ?_); rintro e wn ⟨rfl, rfl⟩) | (go_at_call 31; (refine (HOw.out _ HBm.out.sb.below).mono ?_); rintro e wo ⟨vo, rfl, hoo, hbo⟩; obtain ⟨g2, c2, rfl, hg2, hlt2, hcc2, hcm2, hat2⟩ := hoo.at; have hBo := HBm.out.step hbo; have HBo := hide hBo; have HOo := hide (And.intro hg2 hat2); clear p0 p1 r0 r1 r2 r3 r4 fr_ hoo hbo hg2 hat2 hcc2 hcm2; obtain ⟨p0, p1⟩ := hBo.sb.cells; obtain ⟨r0, r1, r2, r3, r4, fr_⟩ := five_ hBo.res; clear hBo) | fail)
      have hS1 : SLt w wo s (some ⟨b, off, none⟩) lc sa sc g2 own bl o2 more := ⟨HBo.out, HOo.out.2, HAt9.out _ HBo.out.sb.below⟩
      have HSd := hide (hS1.step (Below.refl _ _).drew)
      haveI : Nonempty (ClsW fun W => SLt w W s (some ⟨b, off, none⟩) lc sa sc g2 own bl o2 more) := ⟨⟨_, hS1⟩⟩
      clear hS1 p0 p1 r0 r1 r2 r3 r4 fr_
      refine region_class (ι := (ClsW fun W => SLt w W s (some ⟨b, off, none⟩) lc sa sc g2 own bl o2 more)) ClsW.wd (by kernel_rfl) (by kernel_rfl) ⟨_, HSd.out⟩ rfl ?_
      repeat (go_big_quiet_step (fail))
      refine wpQuiet_nil ?_
      rintro _ ⟨⟨w5, hV5⟩, rfl⟩
      have HV := hide hV5
      clear hV5
      have hwl := HWL.out
      have hwl2 := HWL2.out
      have hwn := HWN.out
      have hwn2 := HWN2.out
      obtain ⟨p0, p1⟩ := HV.out.sd.sb.cells
      obtain ⟨r0, r1, r2, r3, r4, fr_⟩ := five_ HV.out.sd.res
      go_wp2_with (first | (go_at_call 33; (refine (HCp.out _ HV.out.sd.sb.below).mono ?_); intro e wc hc9; obtain ⟨_, ca, _, cb, ⟨ga, rfl⟩, ⟨gb, rfl⟩, rfl, hoa, hob, hne9, hbc⟩ := hc9; have hU := SU.new (HV.out.sd.step hbc) (.slice (some ⟨ga, 0, none⟩) s.ops.length ca) (.slice (some ⟨gb, 0, none⟩) s.seen.length cb); have HU := hide hU; have HOa := hide hoa; have HOb := hide hob; have HNe := hide (hne9 _ _ rfl rfl); have HBc := hide hbc; clear p0 p1 r0 r1 r2 r3 r4 fr_ hoa hob hne9 hbc; obtain ⟨p0, p1⟩ := hU.sd.sb.cells; obtain ⟨b0, b1, bf⟩ := hU.two_; obtain ⟨r0, r1, r2, r3, r4, fr_⟩ := five_ hU.sd.res; clear hU) | (at_builtin; (refine wpList_append_ops rfl _ _ rfl _ _ s.ops rfl (HOa.out.alloc _) (some ⟨bl, o2, none⟩) more _ rfl (HAt9.out _ HU.out.sd.sb.below) (by have := HLm.out; clear hwl hwl2 hwn hwn2; omega) (Nat.le_trans HBc.out.size (base_alloc _ _)) ?_); intro v2 w2 ho2 hg2 hn2; have hla9 := HOa.out.lt ga rfl; have hsz9 := HV.out.sd.lt; have hgg2 : World.grownBy _ w2 (some ga) := hg2; have hU2 := HU.out.gr hgg2 (by clear hwl hwl2 hwn hwn2; omega) (by clear hwl hwl2 hwn hwn2; omega); rw [← HZ1.out] at ho2; obtain ⟨a2, c2, rfl, _, hat2⟩ := owns_at ho2; have hne2 := owns_ne ho2 hU2.box (by decide); obtain ⟨_, _, e9, hcb9, hse9⟩ := owns_atE HOb.out; cases e9; have hlb9 := HOb.out.lt gb rfl; have hse2 := seens_grown (hse9.stays (balloc wc _)) hg2 (fun a e => (by cases e; exact Nat.lt_of_lt_of_le hlb9.2 (base_alloc _ _))) (fun a e e2 => (by cases e; cases e2; exact HNe.out rfl)); have hU3 := hU2.set0 (.slice a2 z.length c2); have HU3 := hide hU3; have HS3 := hide (And.intro hcb9 (seens_setP (i := 0) (v := .slice a2 z.length c2) hse2 (fun a e => (by cases e; show gb ≠ wc.heap.size; clear hwl hwl2 hwn hwn2; omega)))); have HA3 := hide (And.intro (ops_setP (i := 0) (v := .slice a2 z.length c2) hat2 (fun x e => (hne2 x e).2.1)) (fun x e => And.intro (Nat.le_trans hsz9 (hne2 x e).1) (hne2 x e).2.1)); clear p0 p1 r0 r1 r2 r3 r4 fr_ b0 b1 bf ho2 hg2 hgg2 hn2 hla9 hsz9 hat2 hne2 hcb9 hse9 hlb9 hse2; obtain ⟨b0, b1, bf⟩ := hU2.two_; obtain ⟨b0s, b1s, bfs⟩ := hU3.two_; clear hU2 hU3) | (go_at_call 34; (refine (HSee.out _ _ _ _ HS3.out.1 HS3.out.2).mono ?_); rintro e w4 ⟨v4, rfl, ho4, hb4⟩; have hU4 := HU3.out.step hb4; obtain ⟨a4, c4, rfl, _, hat4⟩ := owns_atE ho4; have hlt4 := HU3.out.lt; have hlo4 := (fun x (e : a4 = some x) => (ho4.lt x.block (by rw [e]; rfl)).1); have hU5 := hU4.set1 (.slice a4 zz.length c4); have HU5 := hide hU5; have HE4 := hide (And.intro (seens_setP (i := 1) (v := .slice a4 zz.length c4) hat4 (fun x e => Nat.ne_of_gt (Nat.lt_of_lt_of_le hlt4 (hlo4 x e)))) (fun x e => Nat.lt_of_lt_of_le hlt4 (hlo4 x e))); have HA4 := hide (ops_setP (i := 1) (v := .slice a4 zz.length c4) (HA3.out.1.stays hb4) (fun x e => (HA3.out.2 x e).2)); clear b0 b1 bf b0s b1s bfs ho4 hb4 hat4 hlt4 hlo4; obtain ⟨b0, b1, bf⟩ := hU4.two_; obtain ⟨b0s, b1s, bfs⟩ := hU5.two_; obtain ⟨r0, r1, r2, r3, r4, fr_⟩ := five_ hU5.sd.res; clear hU4 hU5) | fail)
      have hBB := HU5.out.hB
      refine bodyPost_ret (v := .agg #[.slice a2 z.length c2, .slice a4 zz.length c4, .slice none 0 0, .int .i64 N9, .int .i64 0]) (by simp [results, Try.results7, go_sem, r0, r1, r2, r3, r4]) rfl ⟨a2, c2, a4, c4, none, 0, rfl, ops5 HA4.out (fun x e => by have := (HA3.out.2 x e).1; clear hwl hwl2 hwn hwn2; omega) _ _ _ _ _, seens5 HE4.out.1 (fun x e => by have := HE4.out.2 x e; clear hwl hwl2 hwn hwn2; omega) _ _ _ _ _, no_ops, below5 HU5.out.sd.sb.below (by clear hwl hwl2 hwn hwn2; omega) _ _ _ _ _⟩
end Go.Proofs.Ytdjjpaleemnikaa.OpR
namespace Go.Proofs.Ytdjjpaleemnikaa.OpR
open Go.ChangeShapes Go.WideShapes Go.ChangeAt Go.RowKit
set_option linter.unusedVariables false

set_option maxRecDepth 100000 in
set_option maxHeartbeats 4000000 in
theorem sUp_ok_c (s : SrvV) (b off lc : Nat) (sa : Option Addr) (sc : Nat) (r fr : Int) (l : List OpV) (bl ol cl : Nat) (w : World) (hz : SSz 1048576 s) (hlc : s.ops.length ≤ lc) (hA : OpsAt w (some ⟨b, off, none⟩) s.ops) (hB : SeensAt w sa s.seen) (hll : l.length ≤ 1048576) (hcl : l.length ≤ cl) (hL : OpsAt w (some ⟨bl, ol, none⟩) l) (hLz : Sized l) (h1 : ¬ 400 < l.length) (f0 : srvRight s = true) (f1 : opsRight l = true) (f2 : rises l = true) (f3 : isIn r 1 50 = true) (f4 : decide (0 ≤ fr) = true) (f5 : allB l r = true) (n : Int) (hn : seenMany s.seen r = n) (hnf : ¬ n < fr) (hn0 : 0 ≤ n ∧ n ≤ 150) (own more : List OpV) (hown : ownB s.ops r = own) (hmo : more = freshOps n fr l) (hm0 : 0 < more.length) (j : Nat) (hj : j < own.length) (hjl : own.length = j + 1) (o : OpV) (hoq : more[0] = o) (hla : ahead own[j] o = true) (hf0 : 0 ≤ fr) (hll4 : l.length ≤ 400) (hfu : ¬ 150 < s.ops.length + more.length) (z : List OpV) (zz : List SeenV) (N9 : Int) (hz1 : z = s.ops ++ more) (hN9 : n + (more.length : Int) = N9) (hsee : ∀ W b off cap, s.seen.length ≤ cap → SeensAt W (some ⟨b, off, none⟩) s.seen → Calls Try.prog 34 #[.slice (some ⟨b, off, none⟩) s.seen.length cap, .agg #[.int .i64 r, .int .i64 N9]] W fun e w' => ∃ v, e = .returned v ∧ w'.ownsRow W.heap.size 67 2 v zz.length (flatG SeenV.cells zz) ∧ Below W.heap.size W w') : Calls Try.prog 7 #[s.agg (some ⟨b, off, none⟩) lc sa sc, .int .i64 r, .int .i64 fr, .slice (some ⟨bl, ol, none⟩) l.length cl] w fun e w' => SvT w w' e ⟨⟨z, zz⟩, [], N9, 0⟩ := by
  have hopl : s.ops.length ≤ 150 := ((srv_iff s).1 f0).ops.1
  have hmol : more.length ≤ 400 := by rw [hmo]; unfold freshOps; rw [List.length_drop]; omega
  have HWL := hide (show wrap64 ((s.ops.length : Int) + (more.length : Int)) = (s.ops.length : Int) + (more.length : Int) by unfold wrap64; omega)
  have HWL2 := hide (show IntKind.i64.wrap ((s.ops.length : Int) + (more.length : Int)) = (s.ops.length : Int) + (more.length : Int) by rw [IntKind.wrap_i64]; omega)
  have d7 : decide (150 < s.ops.length + more.length) = false := by simpa using hfu
  have d8 : decide ((150 : Int) < (s.ops.length : Int) + (more.length : Int)) = false := by simp; omega
  have HWN := hide (show wrap64 (n + (more.length : Int)) = N9 by unfold wrap64; omega)
  have HWN2 := hide (show IntKind.i64.wrap (n + (more.length : Int)) = N9 by rw [IntKind.wrap_i64]; omega)
  have hcp := fun W (hW : Below w.heap.size w W) => sCopy_any s (some ⟨b, off, none⟩) sa lc sc W (by omega) hz.seen (hA.stays hW) (hB.stays hW)
  have HCp := hide hcp
  have HSee := hide hsee
  have HZ1 := hide hz1
  have HLm := hide (show s.ops.length + more.length ≤ 150 by omega)
  clear hcp hsee hz1 hN9 hfu
  have hr := fun W (hW : Below w.heap.size w W) => sSrv_any s (some ⟨b, off, none⟩) sa lc sc W (Nat.le_trans hz.ops (by unfold maxLen; omega)) (fun o ho => ⟨Nat.le_trans (hz.osz o ho).1 (by unfold maxLen; omega), Nat.le_trans (hz.osz o ho).2 (by unfold maxLen; omega)⟩) hz.seen (hA.stays hW) (hB.stays hW)
  have ho := fun W (hW : Below w.heap.size w W) => sOps_any l (some ⟨bl, ol, none⟩) cl W (Nat.le_trans hll (by unfold maxLen; omega)) (hL.stays hW) hLz
  have hi := fun W (hW : Below w.heap.size w W) => rises_any l (some ⟨bl, ol, none⟩) cl W (Nat.le_trans hll (by unfold maxLen; omega)) (hL.stays hW)
  have he := fun W => sRepl_any r W
  have hB0 := SD.start w s (some ⟨b, off, none⟩) lc sa sc
  have HB0 := hide hB0
  have HL := hide hL
  obtain ⟨p0, p1⟩ := hB0.sb.cells
  have d1 : decide (400 < l.length) = false := by simpa using h1
  rw [f0] at hr
  rw [f1] at ho
  rw [f2] at hi
  rw [f3] at he
  have hmn := fun W (hW : Below w.heap.size w W) => sMany_any s (some ⟨b, off, none⟩) sa lc sc r W hz.seen (hB.stays hW)
  rw [hn] at hmn
  have hsr150 := ((srv_iff s).1 f0).ops.1
  have how := fun W (hW : Below w.heap.size w W) => sOwn_any s.ops (some ⟨b, off, none⟩) lc r W hsr150 (hA.stays hW)
  rw [hown] at how
  have dn : decide (n < fr) = false := by simpa using hnf
  obtain ⟨k9, hk9⟩ : ∃ k : Nat, min (l.length : Int) (n - fr) = (k : Int) := ⟨(min (l.length : Int) (n - fr)).toNat, by omega⟩
  have hkl : k9 ≤ l.length := by omega
  have hwr : wrap64 (n - fr) = n - fr := by unfold wrap64; omega
  obtain ⟨o2, ho2⟩ : ∃ o2, o2 = fromOff ol cl k9 := ⟨_, rfl⟩
  have hmo2 : more = l.drop k9 := by rw [hmo]; unfold freshOps; rw [show min (n - fr) (l.length : Int) = (k9 : Int) by omega]; rfl
  have hml : l.length - k9 = more.length := by rw [hmo2, List.length_drop]
  have hsl := fun W => slice_from W bl ol l.length cl k9 (k9 : Int) rfl hkl
  rw [← ho2, hml] at hsl
  have hat9 : ∀ W, Below w.heap.size w W → OpsAt W (some ⟨bl, o2, none⟩) more := fun W hW => by rw [ho2, hmo2]; exact (hL.stays hW).from k9 hcl
  have HAt9 := hide hat9
  have HOw := hide how
  have HMn := hide hmn
  have HR := hide hr
  have HO := hide ho
  have HI := hide hi
  have HE := hide he
  have hownl : own.length ≤ 150 := by rw [← hown]; have := own_len s.ops r; omega
  unfold SrvV.agg at *
  clear hr ho hi he hB0 hA hB hz hL hLz hmn hn hnf how hown hmo hmo2 ho2 hat9 hsr150
  have HOq := hide hoq
  clear hoq
  have hah := fun W => ahead_any own[j] o W
  unfold OpV.agg at hah
  rw [hla] at hah
  have HAh := hide hah
  have d4 : decide (0 < more.length) = true := by simpa using hm0
  have d5 : (0 : Int) < (more.length : Int) := by omega
  have d6 : decide (0 < own.length) = true := by simp; omega
  have hwj : wrap64 ((own.length : Int) - 1) = (j : Int) := by unfold wrap64; omega
  have hwj2 : IntKind.i64.wrap ((own.length : Int) - 1) = (j : Int) := by rw [IntKind.wrap_i64]; omega
  have hj0 : (0 : Int) ≤ (j : Int) := by omega
  have hj1 : (j : Int) < (own.length : Int) := by omega
  have HJl := hide hjl
  clear hah hla hjl

  go_enter Try.func7, Try.ntmps7
  go_wp2_with (first | (go_at_call 25; (refine (HR.out _ HB0.out.sb.below).mono ?_); rintro e w1 ⟨rfl, hb⟩; have hB1 := HB0.out.step hb; have HB1 := hide hB1; clear p0 p1 hb; obtain ⟨p0, p1⟩ := hB1.sb.cells; clear hB1) | (go_at_call 26; (refine (HO.out _ HB1.out.sb.below).mono ?_); rintro e w2 ⟨rfl, hb⟩; have hB1 := HB1.out.step hb; have HB2 := hide hB1; clear p0 p1 hb; obtain ⟨p0, p1⟩ := hB1.sb.cells; clear hB1) | (go_at_call 27; (refine (HI.out _ HB2.out.sb.below).mono ?_); rintro e w3 ⟨rfl, hb⟩; have hB1 := HB2.out.step hb; have HB3 := hide hB1; clear p0 p1 hb; obtain ⟨p0, p1⟩ := hB1.sb.cells; clear hB1) | (go_at_call 28; (refine (HE.out _).mono ?_); rintro e w4 ⟨rfl, rfl⟩) | fail)
  clear p0 p1
  go_loopw [9, 10] (fun a i wr => ∃ k : Nat, k ≤ l.length ∧ i = .int .i64 k ∧ a = .bool (allB (l.take k) r) ∧ SD w wr s (some ⟨b, off, none⟩) lc sa sc) (fun _ i _ => l.length - (intOf i).toNat)
  case atStart => exact ⟨0, by omega, rfl, by rfl, HB3.out⟩
  case round =>
    obtain ⟨k, hk, rfl, rfl, hSD⟩ := hrel
    have HSD := hide hSD
    obtain ⟨p0, p1⟩ := hSD.sb.cells
    obtain ⟨r0, r1, r2, r3, r4, fr_⟩ := five_ hSD.res
    by_cases h : k < l.length
    · have dk : decide (k < l.length) = true := by simpa using h
      obtain ⟨b', off', eb, hlt, hs0⟩ := HL.out k h
      cases eb
      obtain ⟨c0, c1, c2, c3, c4, c5, c6⟩ := hs0.block (w' := wr) (hSD.sb.below.block bl hlt)
      have hi0 : (0 : Int) ≤ (k : Int) := by omega
      have hi1 : (k : Int) < (l.length : Int) := by omega
      have hat := hide (allB_take h r)
      clear hSD hs0
      cases ha : allB (l.take k) r
      · have HAl := hide ha
        go_wp2
        go_roundw
        case rel => exact ⟨k + 1, by omega, by go_num, by rw [hat.out, HAl.out]; rfl, HSD.out⟩
        case measure => simp [intOf]; omega
      · have HAl := hide ha
        cases hq : (l[k].repl == r)
        · have HQ := hide hq
          go_wp2
          go_roundw
          case rel => exact ⟨k + 1, by omega, by go_num, by rw [hat.out, HAl.out, HQ.out]; rfl, HSD.out⟩
          case measure => simp [intOf]; omega
        · have HQ := hide hq
          go_wp2
          go_roundw
          case rel => exact ⟨k + 1, by omega, by go_num, by rw [hat.out, HAl.out, HQ.out]; rfl, HSD.out⟩
          case measure => simp [intOf]; omega
    · obtain rfl : k = l.length := by omega
      have dk : decide (l.length < l.length) = false := by simp
      have dt : allB (l.take l.length) r = true := by rw [List.take_length]; exact f5
      clear hSD
      go_wp2_with (first | (go_at_call 29; (refine (HMn.out _ HSD.out.sb.below).mono ?_); rintro e wm ⟨rfl, hbm⟩; have hBm := HSD.out.step hbm; have HBm := hide hBm; clear p0 p1 r0 r1 r2 r3 r4 fr_ hbm; obtain ⟨p0, p1⟩ := hBm.sb.cells; obtain ⟨r0, r1, r2, r3, r4, fr_⟩ := five_ hBm.res; clear hBm) | (go_at_call 30; (refine (sMin2_any _ _ _).mono ?_); rintro e wn ⟨rfl, rfl⟩) | (go_at_call 31; (refine (HOw.out _ HBm.out.sb.below).mono ?_); rintro e wo ⟨vo, rfl, hoo, hbo⟩; obtain ⟨g2, c2, rfl, hg2, hlt2, hcc2, hcm2, hat2⟩ := hoo.at; have hBo := HBm.out.step hbo; have HBo := hide hBo; have HOo := hide (And.intro hg2 hat2); clear p0 p1 r0 r1 r2 r3 r4 fr_ hoo hbo hg2 hat2 hcc2 hcm2; obtain ⟨p0, p1⟩ := hBo.sb.cells; obtain ⟨r0, r1, r2, r3, r4, fr_⟩ := five_ hBo.res; clear hBo) | fail)
      have hS1 : SLt w wo s (some ⟨b, off, none⟩) lc sa sc g2 own bl o2 more := ⟨HBo.out, HOo.out.2, HAt9.out _ HBo.out.sb.below⟩
      have HSd := hide (hS1.step (Below.refl _ _).drew)
      haveI : Nonempty (ClsW fun W => SLt w W s (some ⟨b, off, none⟩) lc sa sc g2 own bl o2 more) := ⟨⟨_, hS1⟩⟩
      have X0 : ∀ q : (ClsW fun W => SLt w W s (some ⟨b, off, none⟩) lc sa sc g2 own bl o2 more), q.wd.cell? ⟨g2, j * 7, none⟩ = some (.int .i64 own[j].time) := fun q => (q.ok.own_ hj).1
      have X1 : ∀ q : (ClsW fun W => SLt w W s (some ⟨b, off, none⟩) lc sa sc g2 own bl o2 more), q.wd.cell? ⟨g2, j * 7 + 1, none⟩ = some (.int .i64 own[j].repl) := fun q => (q.ok.own_ hj).2.1
      have X2 : ∀ q : (ClsW fun W => SLt w W s (some ⟨b, off, none⟩) lc sa sc g2 own bl o2 more), q.wd.cell? ⟨g2, j * 7 + 2, none⟩ = some (.int .i64 own[j].kind) := fun q => (q.ok.own_ hj).2.2.1
      have X3 : ∀ q : (ClsW fun W => SLt w W s (some ⟨b, off, none⟩) lc sa sc g2 own bl o2 more), q.wd.cell? ⟨g2, j * 7 + 3, none⟩ = some (.int .i64 own[j].node) := fun q => (q.ok.own_ hj).2.2.2.1
      have X4 : ∀ q : (ClsW fun W => SLt w W s (some ⟨b, off, none⟩) lc sa sc g2 own bl o2 more), q.wd.cell? ⟨g2, j * 7 + 4, none⟩ = some (.int .i64 own[j].parent) := fun q => (q.ok.own_ hj).2.2.2.2.1
      have X5 : ∀ q : (ClsW fun W => SLt w W s (some ⟨b, off, none⟩) lc sa sc g2 own bl o2 more), q.wd.cell? ⟨g2, j * 7 + 5, none⟩ = some (.string own[j].name) := fun q => (q.ok.own_ hj).2.2.2.2.2.1
      have X6 : ∀ q : (ClsW fun W => SLt w W s (some ⟨b, off, none⟩) lc sa sc g2 own bl o2 more), q.wd.cell? ⟨g2, j * 7 + 6, none⟩ = some (.string own[j].value) := fun q => (q.ok.own_ hj).2.2.2.2.2.2
      have Y0 : ∀ q : (ClsW fun W => SLt w W s (some ⟨b, off, none⟩) lc sa sc g2 own bl o2 more), q.wd.cell? ⟨bl, o2, none⟩ = some (.int .i64 o.time) := fun q => (q.ok.op0 hm0 HOq.out).1
      have Y1 : ∀ q : (ClsW fun W => SLt w W s (some ⟨b, off, none⟩) lc sa sc g2 own bl o2 more), q.wd.cell? ⟨bl, o2 + 1, none⟩ = some (.int .i64 o.repl) := fun q => (q.ok.op0 hm0 HOq.out).2.1
      have Y2 : ∀ q : (ClsW fun W => SLt w W s (some ⟨b, off, none⟩) lc sa sc g2 own bl o2 more), q.wd.cell? ⟨bl, o2 + 2, none⟩ = some (.int .i64 o.kind) := fun q => (q.ok.op0 hm0 HOq.out).2.2.1
      have Y3 : ∀ q : (ClsW fun W => SLt w W s (some ⟨b, off, none⟩) lc sa sc g2 own bl o2 more), q.wd.cell? ⟨bl, o2 + 3, none⟩ = some (.int .i64 o.node) := fun q => (q.ok.op0 hm0 HOq.out).2.2.2.1
      have Y4 : ∀ q : (ClsW fun W => SLt w W s (some ⟨b, off, none⟩) lc sa sc g2 own bl o2 more), q.wd.cell? ⟨bl, o2 + 4, none⟩ = some (.int .i64 o.parent) := fun q => (q.ok.op0 hm0 HOq.out).2.2.2.2.1
      have Y5 : ∀ q : (ClsW fun W => SLt w W s (some ⟨b, off, none⟩) lc sa sc g2 own bl o2 more), q.wd.cell? ⟨bl, o2 + 5, none⟩ = some (.string o.name) := fun q => (q.ok.op0 hm0 HOq.out).2.2.2.2.2.1
      have Y6 : ∀ q : (ClsW fun W => SLt w W s (some ⟨b, off, none⟩) lc sa sc g2 own bl o2 more), q.wd.cell? ⟨bl, o2 + 6, none⟩ = some (.string o.value) := fun q => (q.ok.op0 hm0 HOq.out).2.2.2.2.2.2
      clear hS1 p0 p1 r0 r1 r2 r3 r4 fr_
      refine region_class (ι := (ClsW fun W => SLt w W s (some ⟨b, off, none⟩) lc sa sc g2 own bl o2 more)) ClsW.wd (by kernel_rfl) (by kernel_rfl) ⟨_, HSd.out⟩ rfl ?_
      repeat (go_big_quiet_step (first | (go_at_call 32; rename_i q; refine (HAh.out _).mono ?_; rintro e w4 ⟨rfl, hw4⟩; exact ⟨rfl, ⟨w4, q.ok.step hw4⟩, rfl⟩)))
      refine wpQuiet_nil ?_
      rintro _ ⟨⟨w5, hV5⟩, rfl⟩
      have HV := hide hV5
      clear X0 X1 X2 X3 X4 X5 X6 Y0 Y1 Y2 Y3 Y4 Y5 Y6 hV5
      have hwl := HWL.out
      have hwl2 := HWL2.out
      have hwn := HWN.out
      have hwn2 := HWN2.out
      obtain ⟨p0, p1⟩ := HV.out.sd.sb.cells
      obtain ⟨r0, r1, r2, r3, r4, fr_⟩ := five_ HV.out.sd.res
      go_wp2_with (first | (go_at_call 33; (refine (HCp.out _ HV.out.sd.sb.below).mono ?_); intro e wc hc9; obtain ⟨_, ca, _, cb, ⟨ga, rfl⟩, ⟨gb, rfl⟩, rfl, hoa, hob, hne9, hbc⟩ := hc9; have hU := SU.new (HV.out.sd.step hbc) (.slice (some ⟨ga, 0, none⟩) s.ops.length ca) (.slice (some ⟨gb, 0, none⟩) s.seen.length cb); have HU := hide hU; have HOa := hide hoa; have HOb := hide hob; have HNe := hide (hne9 _ _ rfl rfl); have HBc := hide hbc; clear p0 p1 r0 r1 r2 r3 r4 fr_ hoa hob hne9 hbc; obtain ⟨p0, p1⟩ := hU.sd.sb.cells; obtain ⟨b0, b1, bf⟩ := hU.two_; obtain ⟨r0, r1, r2, r3, r4, fr_⟩ := five_ hU.sd.res; clear hU) | (at_builtin; (refine wpList_append_ops rfl _ _ rfl _ _ s.ops rfl (HOa.out.alloc _) (some ⟨bl, o2, none⟩) more _ rfl (HAt9.out _ HU.out.sd.sb.below) (by have := HLm.out; clear hwl hwl2 hwn hwn2; omega) (Nat.le_trans HBc.out.size (base_alloc _ _)) ?_); intro v2 w2 ho2 hg2 hn2; have hla9 := HOa.out.lt ga rfl; have hsz9 := HV.out.sd.lt; have hgg2 : World.grownBy _ w2 (some ga) := hg2; have hU2 := HU.out.gr hgg2 (by clear hwl hwl2 hwn hwn2; omega) (by clear hwl hwl2 hwn hwn2; omega); rw [← HZ1.out] at ho2; obtain ⟨a2, c2, rfl, _, hat2⟩ := owns_at ho2; have hne2 := owns_ne ho2 hU2.box (by decide); obtain ⟨_, _, e9, hcb9, hse9⟩ := owns_atE HOb.out; cases e9; have hlb9 := HOb.out.lt gb rfl; have hse2 := seens_grown (hse9.stays (balloc wc _)) hg2 (fun a e => (by cases e; exact Nat.lt_of_lt_of_le hlb9.2 (base_alloc _ _))) (fun a e e2 => (by cases e; cases e2; exact HNe.out rfl)); have hU3 := hU2.set0 (.slice a2 z.length c2); have HU3 := hide hU3; have HS3 := hide (And.intro hcb9 (seens_setP (i := 0) (v := .slice a2 z.length c2) hse2 (fun a e => (by cases e; show gb ≠ wc.heap.size; clear hwl hwl2 hwn hwn2; omega)))); have HA3 := hide (And.intro (ops_setP (i := 0) (v := .slice a2 z.length c2) hat2 (fun x e => (hne2 x e).2.1)) (fun x e => And.intro (Nat.le_trans hsz9 (hne2 x e).1) (hne2 x e).2.1)); clear p0 p1 r0 r1 r2 r3 r4 fr_ b0 b1 bf ho2 hg2 hgg2 hn2 hla9 hsz9 hat2 hne2 hcb9 hse9 hlb9 hse2; obtain ⟨b0, b1, bf⟩ := hU2.two_; obtain ⟨b0s, b1s, bfs⟩ := hU3.two_; clear hU2 hU3) | (go_at_call 34; (refine (HSee.out _ _ _ _ HS3.out.1 HS3.out.2).mono ?_); rintro e w4 ⟨v4, rfl, ho4, hb4⟩; have hU4 := HU3.out.step hb4; obtain ⟨a4, c4, rfl, _, hat4⟩ := owns_atE ho4; have hlt4 := HU3.out.lt; have hlo4 := (fun x (e : a4 = some x) => (ho4.lt x.block (by rw [e]; rfl)).1); have hU5 := hU4.set1 (.slice a4 zz.length c4); have HU5 := hide hU5; have HE4 := hide (And.intro (seens_setP (i := 1) (v := .slice a4 zz.length c4) hat4 (fun x e => Nat.ne_of_gt (Nat.lt_of_lt_of_le hlt4 (hlo4 x e)))) (fun x e => Nat.lt_of_lt_of_le hlt4 (hlo4 x e))); have HA4 := hide (ops_setP (i := 1) (v := .slice a4 zz.length c4) (HA3.out.1.stays hb4) (fun x e => (HA3.out.2 x e).2)); clear b0 b1 bf b0s b1s bfs ho4 hb4 hat4 hlt4 hlo4; obtain ⟨b0, b1, bf⟩ := hU4.two_; obtain ⟨b0s, b1s, bfs⟩ := hU5.two_; obtain ⟨r0, r1, r2, r3, r4, fr_⟩ := five_ hU5.sd.res; clear hU4 hU5) | fail)
      have hBB := HU5.out.hB
      refine bodyPost_ret (v := .agg #[.slice a2 z.length c2, .slice a4 zz.length c4, .slice none 0 0, .int .i64 N9, .int .i64 0]) (by simp [results, Try.results7, go_sem, r0, r1, r2, r3, r4]) rfl ⟨a2, c2, a4, c4, none, 0, rfl, ops5 HA4.out (fun x e => by have := (HA3.out.2 x e).1; clear hwl hwl2 hwn hwn2; omega) _ _ _ _ _, seens5 HE4.out.1 (fun x e => by have := HE4.out.2 x e; clear hwl hwl2 hwn hwn2; omega) _ _ _ _ _, no_ops, below5 HU5.out.sd.sb.below (by clear hwl hwl2 hwn hwn2; omega) _ _ _ _ _⟩
end Go.Proofs.Ytdjjpaleemnikaa.OpR
namespace Go.Proofs.Ytdjjpaleemnikaa.OpR
open Go.ChangeShapes Go.WideShapes Go.ChangeAt Go.RowKit
set_option linter.unusedVariables false

theorem bad_arg {a b c d e f : Bool} (h : (a && (b && (c && (d && (e && f))))) = false) : a = false ∨ (a = true ∧ b = false) ∨ (a = true ∧ b = true ∧ c = false) ∨ (a = true ∧ b = true ∧ c = true ∧ d = false) ∨ (a = true ∧ b = true ∧ c = true ∧ d = true ∧ e = false) ∨ (a = true ∧ b = true ∧ c = true ∧ d = true ∧ e = true ∧ f = false) := by
  revert h
  cases a <;> cases b <;> cases c <;> cases d <;> cases e <;> cases f <;> decide
theorem last_at {l : List OpV} {j : Nat} (hj : j < l.length) (hjl : l.length = j + 1) : lastO l = l[j] := by
  unfold lastO
  rw [List.getLast?_eq_getElem?, show l.length - 1 = j by omega, List.getElem?_eq_getElem hj]
  rfl
/-- What spec.Upload answers. -/
theorem sUp_any (s : SrvV) (b off lc : Nat) (sa : Option Addr) (sc : Nat) (r fr : Int) (l : List OpV) (bl ol cl : Nat) (w : World) (hz : SSz 1048576 s) (hlc : s.ops.length ≤ lc) (hA : OpsAt w (some ⟨b, off, none⟩) s.ops) (hB : SeensAt w sa s.seen) (hll : l.length ≤ 1048576) (hcl : l.length ≤ cl) (hL : OpsAt w (some ⟨bl, ol, none⟩) l) (hLz : Sized l) : Calls Try.prog 7 #[s.agg (some ⟨b, off, none⟩) lc sa sc, .int .i64 r, .int .i64 fr, .slice (some ⟨bl, ol, none⟩) l.length cl] w fun e w' => SvT w w' e (upRes s r fr l) := by
  by_cases h1 : 400 < l.length
  · rw [show upRes s r fr l = SOutV.ill 0 2 by unfold upRes; rw [if_pos h1]]
    exact sUp_1 s b off lc sa sc r fr l bl ol cl w hz hlc hA hB hll hcl hL hLz h1
  cases hall : (srvRight s && sentR r fr l)
  · rw [upRes_no h1 hall]
    rw [sent_eq] at hall
    rcases bad_arg hall with a | ⟨a, b1⟩ | ⟨a, b1, c⟩ | ⟨a, b1, c, d⟩ | ⟨a, b1, c, d, e⟩ | ⟨a, b1, c, d, e, f⟩
    · exact sUp_f0 s b off lc sa sc r fr l bl ol cl w hz hlc hA hB hll hcl hL hLz h1 a
    · exact sUp_f1 s b off lc sa sc r fr l bl ol cl w hz hlc hA hB hll hcl hL hLz h1 a b1
    · exact sUp_f2 s b off lc sa sc r fr l bl ol cl w hz hlc hA hB hll hcl hL hLz h1 a b1 c
    · exact sUp_f3 s b off lc sa sc r fr l bl ol cl w hz hlc hA hB hll hcl hL hLz h1 a b1 c d
    · exact sUp_f4 s b off lc sa sc r fr l bl ol cl w hz hlc hA hB hll hcl hL hLz h1 a b1 c d e
    · exact sUp_f5 s b off lc sa sc r fr l bl ol cl w hz hlc hA hB hll hcl hL hLz h1 a b1 c d e f
  rw [Bool.and_eq_true] at hall
  obtain ⟨hsr, hse⟩ := hall
  obtain ⟨f1, f2, f3, f4, f5⟩ := ops_of_sent hse
  have hS := (srv_iff s).1 hsr
  obtain ⟨m, hgo, hI, hsn⟩ := hS.inv
  have hF := inv_few ((ops_iff _).2 hS.ops) hgo hI
  have h150 := hS.ops.1
  have hfr0 : 0 ≤ fr := by simpa using f4
  have hq := hF.2 r
  have hn : seenMany s.seen r = (sgOf m r).many := by rw [hsn, seenMany_L]
  have hn0 : 0 ≤ (sgOf m r).many ∧ (sgOf m r).many ≤ 150 := by omega
  have hl4 : l.length ≤ 400 := by omega
  rw [upRes_yes h1 hsr hse hgo]
  unfold upTold
  by_cases h3 : (sgOf m r).many < fr
  · rw [if_pos h3]
    exact sUp_place s b off lc sa sc r fr l bl ol cl w hz hlc hA hB hll hcl hL hLz h1 hsr f1 f2 f3 f4 f5 _ hn h3
  rw [if_neg h3]
  obtain ⟨more, hmo⟩ : ∃ more, more = freshOps (sgOf m r).many fr l := ⟨_, rfl⟩
  obtain ⟨own, hown⟩ : ∃ own, ownB s.ops r = own := ⟨_, rfl⟩
  rw [← hmo]
  have hsg := hI.sg r
  rw [hown] at hsg
  have hmm : ∀ o ∈ more, o.repl = r := fun o ho => by
    rw [hmo] at ho
    exact allB_mem f5 o (List.mem_of_mem_drop ho)
  have hmt : ∀ o ∈ more, 1 ≤ o.time := fun o ho => by
    rw [hmo] at ho
    exact ops_times ((ops_iff _).1 f1) o (List.mem_of_mem_drop ho)
  have hlast : (sgOf m r).last = lastO own := by rw [hsg]
  have hway : more = [] ∨ (0 < more.length ∧ own = []) ∨ ∃ (h0 : 0 < more.length) (j : Nat) (hj : j < own.length), own.length = j + 1 := by
    by_cases e : more = []
    · exact .inl e
    have e1 : 0 < more.length := List.length_pos_iff.2 e
    by_cases e2 : own = []
    · exact .inr (.inl ⟨e1, e2⟩)
    have e3 : 0 < own.length := List.length_pos_iff.2 e2
    exact .inr (.inr ⟨e1, own.length - 1, by omega, by omega⟩)
  have hlate : ∀ (h0 : 0 < more.length), lateB (sgOf m r) more = !ahead (lastO own) more[0] := fun h0 => by
    rw [← hlast]
    cases more with
    | nil => exact absurd h0 (by simp)
    | cons o q => rfl
  have hlate0 : (more = [] ∨ own = []) → lateB (sgOf m r) more = false := by
    rintro (e | e)
    · rw [e]; rfl
    · by_cases h0 : 0 < more.length
      · rw [hlate h0, e, show lastO ([] : List OpV) = OpV.zero from rfl, zero_ahead (hmt _ (List.getElem_mem h0))]
        rfl
      · rw [List.eq_nil_of_length_eq_zero (by omega : more.length = 0)]; rfl
  have hsee : ∀ W b off cap, s.seen.length ≤ cap → SeensAt W (some ⟨b, off, none⟩) s.seen → Calls Try.prog 34 #[.slice (some ⟨b, off, none⟩) s.seen.length cap, .agg #[.int .i64 r, .int .i64 ((sgOf m r).many + (more.length : Int))]] W fun e w' => ∃ v, e = .returned v ∧ w'.ownsRow W.heap.size 67 2 v (seenL (putAll m more)).length (flatG SeenV.cells (seenL (putAll m more))) ∧ Below W.heap.size W w' := fun W b off cap hc hA => by
    have hzs := hz.seen
    rw [hsn] at hc hA hzs ⊢
    exact see_any hI.rise hmm hn0.1 b off cap W hzs hc hA
  have hmany := (putAll_own more (m := m) hmm).1
  by_cases h4 : lateB (sgOf m r) more = true
  · rw [if_pos h4]
    rcases hway with e | ⟨h0, e⟩ | ⟨h0, j, hj, hjl⟩
    · rw [hlate0 (.inl e)] at h4; cases h4
    · rw [hlate0 (.inr e)] at h4; cases h4
    · rw [hlate h0, last_at hj hjl] at h4
      have h5 : ahead own[j] more[0] = false := by simpa using h4
      obtain ⟨o, r', hc⟩ := List.exists_cons_of_ne_nil (List.length_pos_iff.1 h0)
      subst hc
      exact sUp_late s b off lc sa sc r fr l bl ol cl w hz hlc hA hB hll hcl hL hLz h1 hsr f1 f2 f3 f4 f5 _ hn h3 hn0 own (o :: r') hown hmo o r' rfl j hj hjl h5 hfr0 hl4
  rw [if_neg h4]
  have h4' : lateB (sgOf m r) more = false := Bool.eq_false_iff.2 h4
  by_cases h5 : 150 < s.ops.length + more.length
  · rw [if_pos h5]
    rcases hway with e | ⟨h0, e⟩ | ⟨h0, j, hj, hjl⟩
    · exact sUp_full_a s b off lc sa sc r fr l bl ol cl w hz hlc hA hB hll hcl hL hLz h1 hsr f1 f2 f3 f4 f5 _ hn h3 hn0 own more hown hmo e hfr0 hl4 h5
    · exact sUp_full_b s b off lc sa sc r fr l bl ol cl w hz hlc hA hB hll hcl hL hLz h1 hsr f1 f2 f3 f4 f5 _ hn h3 hn0 own more hown hmo h0 e hfr0 hl4 h5
    · have h6 : ahead own[j] more[0] = true := by rw [hlate h0, last_at hj hjl] at h4'; simpa using h4'
      exact sUp_full_c s b off lc sa sc r fr l bl ol cl w hz hlc hA hB hll hcl hL hLz h1 hsr f1 f2 f3 f4 f5 _ hn h3 hn0 own more hown hmo h0 j hj hjl more[0] rfl h6 hfr0 hl4 h5
  rw [if_neg h5, hmany]
  rcases hway with e | ⟨h0, e⟩ | ⟨h0, j, hj, hjl⟩
  · exact sUp_ok_a s b off lc sa sc r fr l bl ol cl w hz hlc hA hB hll hcl hL hLz h1 hsr f1 f2 f3 f4 f5 _ hn h3 hn0 own more hown hmo e hfr0 hl4 h5 _ _ _ rfl rfl hsee
  · exact sUp_ok_b s b off lc sa sc r fr l bl ol cl w hz hlc hA hB hll hcl hL hLz h1 hsr f1 f2 f3 f4 f5 _ hn h3 hn0 own more hown hmo h0 e hfr0 hl4 h5 _ _ _ rfl rfl hsee
  · have h6 : ahead own[j] more[0] = true := by rw [hlate h0, last_at hj hjl] at h4'; simpa using h4'
    exact sUp_ok_c s b off lc sa sc r fr l bl ol cl w hz hlc hA hB hll hcl hL hLz h1 hsr f1 f2 f3 f4 f5 _ hn h3 hn0 own more hown hmo h0 j hj hjl more[0] rfl h6 hfr0 hl4 h5 _ _ _ rfl rfl hsee
end Go.Proofs.Ytdjjpaleemnikaa.OpR
