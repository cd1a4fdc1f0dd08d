/- Proves what impl.Upload answers where it comes to take. Proves what impl.Upload answers where it takes, and impl.Upload whole. Proves what impl.Upload answers. What spec.Upload and impl.Upload answer is the same (plain). What holds while spec.Upload puts the fresh ones behind the others. Proves what spec.Upload answers where there is no room. Proves what spec.Upload answers where there is no room. Proves what spec.Upload answers where there is no room. -/
import Derived.Test.YtdjjpaleemnikaaUaA
import Derived.Test.YtdjjpaleemnikaaUaB
namespace Go.Proofs.Ytdjjpaleemnikaa.OpR
open Go.ChangeShapes Go.WideShapes Go.ChangeAt Go.RowKit
set_option linter.unusedVariables false

set_option maxRecDepth 100000 in
set_option maxHeartbeats 1000000 in
theorem iUp_t4 (s : SrvV) (b off lc : Nat) (sa : Option Addr) (sc : Nat) (r fr : Int) (l : List OpV) (bl ol cl : Nat) (w : World) (hz : SSz 1048576 s) (hlc : s.ops.length ≤ lc) (hA : OpsAt w (some ⟨b, off, none⟩) s.ops) (hB : SeensAt w sa s.seen) (hll : l.length ≤ 1048576) (hcl : l.length ≤ cl) (hL : OpsAt w (some ⟨bl, ol, none⟩) l) (hLz : Sized l) (hbl : bl < w.heap.size) (h1 : ¬ 400 < l.length) (hsr : srvRight s = true) (hse : sentR r fr l = true) (m : List (Int × SgtV)) (hgo : seenGo [] s.ops = some m) (htk : ∀ W P B, TkV W P (some ⟨b, off, none⟩) s.ops.length lc B → SgAt W B m → Below w.heap.size w W → Calls Try.prog 40 #[.pointer (some ⟨P, 0, none⟩), .int .i64 r, .int .i64 fr, .slice (some ⟨bl, ol, none⟩) l.length cl] W fun e w' => e = .returned (.int .i64 4) ∧ Below W.heap.size W w') : Calls Try.prog 10 #[s.agg (some ⟨b, off, none⟩) lc sa sc, .int .i64 r, .int .i64 fr, .slice (some ⟨bl, ol, none⟩) l.length cl] w fun e w' => IvT w w' e (SOutV.ill 0 7) := by
  have hr := fun W (hW : Below w.heap.size w W) => serving_any s (some ⟨b, off, none⟩) sa lc sc W (Nat.le_trans hz.ops (by unfold maxLen; omega)) hlc (fun o ho => ⟨Nat.le_trans (hz.osz o ho).1 (by unfold maxLen; omega), Nat.le_trans (hz.osz o ho).2 (by unfold maxLen; omega)⟩) hz.seen (hA.stays hW) (hB.stays hW)
  have hsn := fun W (hW : Below w.heap.size w W) => sent_any r fr l (some ⟨bl, ol, none⟩) cl W hll (hL.stays hW) hLz
  have hB0 := SD.start w s (some ⟨b, off, none⟩) lc sa sc
  have HB0 := hide hB0
  obtain ⟨p0, p1⟩ := hB0.sb.cells
  have HR := hide hr
  have HSn := hide hsn
  have d1 : decide (400 < l.length) = false := by simpa using h1
  have HSr := hide hsr
  have HSe := hide hse
  have HGo := hide hgo
  have HTk := hide htk
  unfold SrvV.agg at *
  clear hr hsn hB0 hA hB hz hL hLz hsr hse hgo htk
  go_enter Try.func10, Try.ntmps10
  go_wp2_with (first | (go_at_call 38; (refine (HR.out _ HB0.out.sb.below).mono ?_); intro e w1 h1; obtain ⟨a1, n1, c1, x1, he, hb1, hm1⟩ := h1; obtain ⟨B, mm, ea, en, ec, ex, hgo1, hM1, hBg⟩ := hm1 HSr.out; rw [ea, en, ec, ex, HSr.out] at he; subst he; rw [HGo.out] at hgo1; cases hgo1; have HBl := hide hM1.lt; have HBg := hide hBg; have HG1 := hide hb1.size; have HB1 := hide ((HB0.out.step hb1).step (balloc w1 (.cells #[.slice (some ⟨b, off, none⟩) s.ops.length lc, .map (some B)] 75))); have HM1 := hide (hM1.stays (balloc w1 (.cells #[.slice (some ⟨b, off, none⟩) s.ops.length lc, .map (some B)] 75))); have HV1 := hide (show TkV (w1.alloc (.cells #[.slice (some ⟨b, off, none⟩) s.ops.length lc, .map (some B)] 75)) w1.heap.size (some ⟨b, off, none⟩) s.ops.length lc B from heap_alloc_new w1 _); clear p0 p1 hb1 hm1 hM1 hBg) | (go_at_call 39; (refine (HSn.out _ HB1.out.sb.below).mono ?_); rintro e w2 ⟨rfl, hb2⟩; rw [HSe.out]; have HB2 := hide (HB1.out.step hb2); have HM2 := hide (HM1.out.stays hb2); have HV2 := hide (HV1.out.step hb2); have HS2 := hide hb2.size; clear hb2) | (go_at_call 40; (refine (HTk.out _ _ _ HV2.out HM2.out HB2.out.sb.below).mono ?_); rintro e w3 ⟨rfl, hb3⟩; have HB3 := hide (HB2.out.step hb3); have HM3 := hide (HM2.out.stays hb3); have HV3 := hide (HV2.out.step hb3); clear hb3) | (go_at_call 37; (refine (code_any _ (by omega) _).mono ?_); intro e we h2; obtain ⟨rfl, hwe⟩ := h2; have hBe := HB3.out; have hVe := HV3.out; have hMe := HM3.out; rw [hwe] at hBe hVe hMe; clear hwe; have HBe := hide hBe; have HMe := hide hMe; have HVe := hide hVe; have rr := (fun o => (hBe.step (balloc we o)).res); have pv := (fun o => (TkV.step hVe (balloc we o)).cells.2.1); have r0 := (fun o => (five_ (rr o)).1); have r1 := (fun o => (five_ (rr o)).2.1); have r2 := (fun o => (five_ (rr o)).2.2.1); have r3 := (fun o => (five_ (rr o)).2.2.2.1); have r4 := (fun o => (five_ (rr o)).2.2.2.2.1); have fr_ := (fun o => (five_ (rr o)).2.2.2.2.2); clear rr hBe hVe hMe) | fail)
  refine bodyPost_ret (v := .agg #[.slice none 0 0, .slice none 0 0, .slice none 0 0, .int .i64 0, .int .i64 7]) (by simp [results, Try.results10, go_sem, codeOf, r0, r1, r2, r3, r4]) rfl (IvT.ill (below5 (HBe.out.sb.below.alloc HBe.out.sb.below.size _) (by omega) _ _ _ _ _))
set_option maxRecDepth 100000 in
set_option maxHeartbeats 1000000 in
theorem iUp_t5 (s : SrvV) (b off lc : Nat) (sa : Option Addr) (sc : Nat) (r fr : Int) (l : List OpV) (bl ol cl : Nat) (w : World) (hz : SSz 1048576 s) (hlc : s.ops.length ≤ lc) (hA : OpsAt w (some ⟨b, off, none⟩) s.ops) (hB : SeensAt w sa s.seen) (hll : l.length ≤ 1048576) (hcl : l.length ≤ cl) (hL : OpsAt w (some ⟨bl, ol, none⟩) l) (hLz : Sized l) (hbl : bl < w.heap.size) (h1 : ¬ 400 < l.length) (hsr : srvRight s = true) (hse : sentR r fr l = true) (m : List (Int × SgtV)) (hgo : seenGo [] s.ops = some m) (htk : ∀ W P B, TkV W P (some ⟨b, off, none⟩) s.ops.length lc B → SgAt W B m → Below w.heap.size w W → Calls Try.prog 40 #[.pointer (some ⟨P, 0, none⟩), .int .i64 r, .int .i64 fr, .slice (some ⟨bl, ol, none⟩) l.length cl] W fun e w' => e = .returned (.int .i64 5) ∧ Below W.heap.size W w') : Calls Try.prog 10 #[s.agg (some ⟨b, off, none⟩) lc sa sc, .int .i64 r, .int .i64 fr, .slice (some ⟨bl, ol, none⟩) l.length cl] w fun e w' => IvT w w' e (SOutV.ill 0 9) := by
  have hr := fun W (hW : Below w.heap.size w W) => serving_any s (some ⟨b, off, none⟩) sa lc sc W (Nat.le_trans hz.ops (by unfold maxLen; omega)) hlc (fun o ho => ⟨Nat.le_trans (hz.osz o ho).1 (by unfold maxLen; omega), Nat.le_trans (hz.osz o ho).2 (by unfold maxLen; omega)⟩) hz.seen (hA.stays hW) (hB.stays hW)
  have hsn := fun W (hW : Below w.heap.size w W) => sent_any r fr l (some ⟨bl, ol, none⟩) cl W hll (hL.stays hW) hLz
  have hB0 := SD.start w s (some ⟨b, off, none⟩) lc sa sc
  have HB0 := hide hB0
  obtain ⟨p0, p1⟩ := hB0.sb.cells
  have HR := hide hr
  have HSn := hide hsn
  have d1 : decide (400 < l.length) = false := by simpa using h1
  have HSr := hide hsr
  have HSe := hide hse
  have HGo := hide hgo
  have HTk := hide htk
  unfold SrvV.agg at *
  clear hr hsn hB0 hA hB hz hL hLz hsr hse hgo htk
  go_enter Try.func10, Try.ntmps10
  go_wp2_with (first | (go_at_call 38; (refine (HR.out _ HB0.out.sb.below).mono ?_); intro e w1 h1; obtain ⟨a1, n1, c1, x1, he, hb1, hm1⟩ := h1; obtain ⟨B, mm, ea, en, ec, ex, hgo1, hM1, hBg⟩ := hm1 HSr.out; rw [ea, en, ec, ex, HSr.out] at he; subst he; rw [HGo.out] at hgo1; cases hgo1; have HBl := hide hM1.lt; have HBg := hide hBg; have HG1 := hide hb1.size; have HB1 := hide ((HB0.out.step hb1).step (balloc w1 (.cells #[.slice (some ⟨b, off, none⟩) s.ops.length lc, .map (some B)] 75))); have HM1 := hide (hM1.stays (balloc w1 (.cells #[.slice (some ⟨b, off, none⟩) s.ops.length lc, .map (some B)] 75))); have HV1 := hide (show TkV (w1.alloc (.cells #[.slice (some ⟨b, off, none⟩) s.ops.length lc, .map (some B)] 75)) w1.heap.size (some ⟨b, off, none⟩) s.ops.length lc B from heap_alloc_new w1 _); clear p0 p1 hb1 hm1 hM1 hBg) | (go_at_call 39; (refine (HSn.out _ HB1.out.sb.below).mono ?_); rintro e w2 ⟨rfl, hb2⟩; rw [HSe.out]; have HB2 := hide (HB1.out.step hb2); have HM2 := hide (HM1.out.stays hb2); have HV2 := hide (HV1.out.step hb2); have HS2 := hide hb2.size; clear hb2) | (go_at_call 40; (refine (HTk.out _ _ _ HV2.out HM2.out HB2.out.sb.below).mono ?_); rintro e w3 ⟨rfl, hb3⟩; have HB3 := hide (HB2.out.step hb3); have HM3 := hide (HM2.out.stays hb3); have HV3 := hide (HV2.out.step hb3); clear hb3) | (go_at_call 37; (refine (code_any _ (by omega) _).mono ?_); intro e we h2; obtain ⟨rfl, hwe⟩ := h2; have hBe := HB3.out; have hVe := HV3.out; have hMe := HM3.out; rw [hwe] at hBe hVe hMe; clear hwe; have HBe := hide hBe; have HMe := hide hMe; have HVe := hide hVe; have rr := (fun o => (hBe.step (balloc we o)).res); have pv := (fun o => (TkV.step hVe (balloc we o)).cells.2.1); have r0 := (fun o => (five_ (rr o)).1); have r1 := (fun o => (five_ (rr o)).2.1); have r2 := (fun o => (five_ (rr o)).2.2.1); have r3 := (fun o => (five_ (rr o)).2.2.2.1); have r4 := (fun o => (five_ (rr o)).2.2.2.2.1); have fr_ := (fun o => (five_ (rr o)).2.2.2.2.2); clear rr hBe hVe hMe) | fail)
  refine bodyPost_ret (v := .agg #[.slice none 0 0, .slice none 0 0, .slice none 0 0, .int .i64 0, .int .i64 9]) (by simp [results, Try.results10, go_sem, codeOf, r0, r1, r2, r3, r4]) rfl (IvT.ill (below5 (HBe.out.sb.below.alloc HBe.out.sb.below.size _) (by omega) _ _ _ _ _))
set_option maxRecDepth 100000 in
set_option maxHeartbeats 1000000 in
theorem iUp_t3 (s : SrvV) (b off lc : Nat) (sa : Option Addr) (sc : Nat) (r fr : Int) (l : List OpV) (bl ol cl : Nat) (w : World) (hz : SSz 1048576 s) (hlc : s.ops.length ≤ lc) (hA : OpsAt w (some ⟨b, off, none⟩) s.ops) (hB : SeensAt w sa s.seen) (hll : l.length ≤ 1048576) (hcl : l.length ≤ cl) (hL : OpsAt w (some ⟨bl, ol, none⟩) l) (hLz : Sized l) (hbl : bl < w.heap.size) (h1 : ¬ 400 < l.length) (hsr : srvRight s = true) (hse : sentR r fr l = true) (m : List (Int × SgtV)) (hgo : seenGo [] s.ops = some m) (hr64 : -9223372036854775808 ≤ r ∧ r ≤ 9223372036854775807) (htk : ∀ W P B, TkV W P (some ⟨b, off, none⟩) s.ops.length lc B → SgAt W B m → Below w.heap.size w W → Calls Try.prog 40 #[.pointer (some ⟨P, 0, none⟩), .int .i64 r, .int .i64 fr, .slice (some ⟨bl, ol, none⟩) l.length cl] W fun e w' => e = .returned (.int .i64 3) ∧ Below W.heap.size W w') : Calls Try.prog 10 #[s.agg (some ⟨b, off, none⟩) lc sa sc, .int .i64 r, .int .i64 fr, .slice (some ⟨bl, ol, none⟩) l.length cl] w fun e w' => IvT w w' e (SOutV.ill (sgOf m r).many 8) := by
  have hr := fun W (hW : Below w.heap.size w W) => serving_any s (some ⟨b, off, none⟩) sa lc sc W (Nat.le_trans hz.ops (by unfold maxLen; omega)) hlc (fun o ho => ⟨Nat.le_trans (hz.osz o ho).1 (by unfold maxLen; omega), Nat.le_trans (hz.osz o ho).2 (by unfold maxLen; omega)⟩) hz.seen (hA.stays hW) (hB.stays hW)
  have hsn := fun W (hW : Below w.heap.size w W) => sent_any r fr l (some ⟨bl, ol, none⟩) cl W hll (hL.stays hW) hLz
  have hB0 := SD.start w s (some ⟨b, off, none⟩) lc sa sc
  have HB0 := hide hB0
  obtain ⟨p0, p1⟩ := hB0.sb.cells
  have HR := hide hr
  have HSn := hide hsn
  have d1 : decide (400 < l.length) = false := by simpa using h1
  have HSr := hide hsr
  have HSe := hide hse
  have HGo := hide hgo
  have HTk := hide htk
  obtain ⟨g9, hg9⟩ : ∃ g9, g9 = sgOf m r := ⟨_, rfl⟩
  have hof := fun W B (hW : SgAt W B m) => of_any m B r W hr64 hW
  rw [← hg9] at hof
  have hfld := fun W => sight_many g9 W
  unfold SgtV.agg at hof
  have HOf := hide hof
  rw [← hg9]
  unfold SrvV.agg at *
  clear hr hsn hB0 hA hB hz hL hLz hsr hse hgo htk hof hg9
  go_enter Try.func10, Try.ntmps10
  go_wp2_with (first | (go_at_call 38; (refine (HR.out _ HB0.out.sb.below).mono ?_); intro e w1 h1; obtain ⟨a1, n1, c1, x1, he, hb1, hm1⟩ := h1; obtain ⟨B, mm, ea, en, ec, ex, hgo1, hM1, hBg⟩ := hm1 HSr.out; rw [ea, en, ec, ex, HSr.out] at he; subst he; rw [HGo.out] at hgo1; cases hgo1; have HBl := hide hM1.lt; have HBg := hide hBg; have HG1 := hide hb1.size; have HB1 := hide ((HB0.out.step hb1).step (balloc w1 (.cells #[.slice (some ⟨b, off, none⟩) s.ops.length lc, .map (some B)] 75))); have HM1 := hide (hM1.stays (balloc w1 (.cells #[.slice (some ⟨b, off, none⟩) s.ops.length lc, .map (some B)] 75))); have HV1 := hide (show TkV (w1.alloc (.cells #[.slice (some ⟨b, off, none⟩) s.ops.length lc, .map (some B)] 75)) w1.heap.size (some ⟨b, off, none⟩) s.ops.length lc B from heap_alloc_new w1 _); clear p0 p1 hb1 hm1 hM1 hBg) | (go_at_call 39; (refine (HSn.out _ HB1.out.sb.below).mono ?_); rintro e w2 ⟨rfl, hb2⟩; rw [HSe.out]; have HB2 := hide (HB1.out.step hb2); have HM2 := hide (HM1.out.stays hb2); have HV2 := hide (HV1.out.step hb2); have HS2 := hide hb2.size; clear hb2) | (go_at_call 40; (refine (HTk.out _ _ _ HV2.out HM2.out HB2.out.sb.below).mono ?_); rintro e w3 ⟨rfl, hb3⟩; have HB3 := hide (HB2.out.step hb3); have HM3 := hide (HM2.out.stays hb3); have HV3 := hide (HV2.out.step hb3); clear hb3) | (go_at_call 37; (refine (code_any _ (by omega) _).mono ?_); intro e we h2; obtain ⟨rfl, hwe⟩ := h2; have hBe := HB3.out; have hVe := HV3.out; have hMe := HM3.out; rw [hwe] at hBe hVe hMe; clear hwe; have HBe := hide hBe; have HMe := hide hMe; have HVe := hide hVe; have rr := (fun o => (hBe.step (balloc we o)).res); have pv := (fun o => (TkV.step hVe (balloc we o)).cells.2.1); have r0 := (fun o => (five_ (rr o)).1); have r1 := (fun o => (five_ (rr o)).2.1); have r2 := (fun o => (five_ (rr o)).2.2.1); have r3 := (fun o => (five_ (rr o)).2.2.2.1); have r4 := (fun o => (five_ (rr o)).2.2.2.2.1); have fr_ := (fun o => (five_ (rr o)).2.2.2.2.2); clear rr hBe hVe hMe) | (go_at_call 41; (refine (HOf.out _ B (HMe.out.stays (balloc we (.cells #[.slice none 0 0, .slice none 0 0, .slice none 0 0, .int .i64 0, .int .i64 (codeOf 3)] 33)))).mono ?_); rintro e w4 ⟨rfl, hb4⟩; have hB4 := (HBe.out.step (balloc we (.cells #[.slice none 0 0, .slice none 0 0, .slice none 0 0, .int .i64 0, .int .i64 (codeOf 3)] 33))).step hb4; have HB4 := hide hB4; have hO4 := (hb4.block _ (lt_alloc we _)).trans (heap_alloc_new we (.cells #[.slice none 0 0, .slice none 0 0, .slice none 0 0, .int .i64 0, .int .i64 (codeOf 3)] 33)); have hlt4 := HBe.out.lt; have hne1 : ¬ (we.heap.size = w.heap.size + 1) := (fun e => by omega); have hne2 : ¬ (w.heap.size + 1 = we.heap.size) := (fun e => by omega); have HL4 := hide hb4; clear r0 r1 r2 r3 r4 fr_ pv hb4 hlt4; obtain ⟨r0, r1, r2, r3, r4, fr_⟩ := five_ hB4.res; obtain ⟨q0, q1, q2, q3, q4, fq⟩ := five_ hO4; clear hB4 hO4) | fail)
  refine bodyPost_ret (v := .agg #[.slice none 0 0, .slice none 0 0, .slice none 0 0, .int .i64 g9.many, .int .i64 8]) (by simp [results, Try.results10, go_sem, codeOf, r0, r1, r2, r3, r4]) rfl (IvT.ill (below5 (HB4.out.sb.below.setCell (by have := HBe.out.lt; show w.heap.size ≤ we.heap.size; omega) _) (by omega) _ _ _ _ _))
end Go.Proofs.Ytdjjpaleemnikaa.OpR
namespace Go.Proofs.Ytdjjpaleemnikaa.OpR
open Go.ChangeShapes Go.WideShapes Go.ChangeAt Go.RowKit
set_option linter.unusedVariables false

theorem SD.low {w W W' : World} {s : SrvV} {la : Option Addr} {lc : Nat} {sa : Option Addr} {sc B : Nat} (h : SD w W s la lc sa sc) (hb : Below B W W') (hB : w.heap.size + 1 < B) : SD w W' s la lc sa sc :=
  ⟨⟨(hb.block _ (by omega)).trans h.sb.srv, h.sb.below.trans (hb.mono (by omega))⟩, (hb.block _ hB).trans h.res⟩
theorem iv_end {w w6 W' : World} {x : SrvV} {many : Int} {g : Nat} {a : Option Addr} {c N : Nat} (hi : OpsIn w6 g 59 x.ops) (hs : SeensAt w6 a x.seen) (hk : MarkSv w6 x (some ⟨g, 0, none⟩) a) (hsz : w6.heap.size ≤ W'.heap.size) (hbl : ∀ k, N ≤ k → W'.heap[k]? = w6.heap[k]?) (hg : N ≤ g) (ha : ∀ y, a = some y → N ≤ y.block) (hN : w.heap.size ≤ N) (hb : Below w.heap.size w W') :
    IvT w W' (.returned (.agg #[.slice (some ⟨g, 0, none⟩) x.ops.length x.ops.length, .slice a x.seen.length c, .slice none 0 0, .int .i64 many, .int .i64 0])) ⟨x, [], many, 0⟩ :=
  have h1 : OpsIn W' g 59 x.ops := hi.block (hbl g hg)
  have hb2 : ∀ y, a = some y → W'.heap[y.block]? = w6.heap[y.block]? := fun y e => hbl _ (ha y e)
  ⟨some ⟨g, 0, none⟩, x.ops.length, a, c, none, 0, rfl, h1.opsAt, hs.block_ hsz hb2, no_ops, ⟨⟨in_mark h1, hk.seen.block_ hb2, hk.apart⟩, .inr ⟨rfl, rfl⟩, fun y z e1 e2 => (by cases e2), fun y z e1 e2 => (by cases e2)⟩, fun y e => (by cases e; show w.heap.size ≤ g; omega), fun y e => Nat.le_trans hN (ha y e), fun y e => (by cases e), hb⟩
set_option maxRecDepth 100000 in
set_option maxHeartbeats 2000000 in
theorem iUp_ok (s : SrvV) (b off lc : Nat) (sa : Option Addr) (sc : Nat) (r fr : Int) (l : List OpV) (bl ol cl : Nat) (w : World) (hz : SSz 1048576 s) (hlc : s.ops.length ≤ lc) (hA : OpsAt w (some ⟨b, off, none⟩) s.ops) (hB : SeensAt w sa s.seen) (hll : l.length ≤ 1048576) (hcl : l.length ≤ cl) (hL : OpsAt w (some ⟨bl, ol, none⟩) l) (hLz : Sized l) (hbl : bl < w.heap.size) (h1 : ¬ 400 < l.length) (hsr : srvRight s = true) (hse : sentR r fr l = true) (m : List (Int × SgtV)) (hgo : seenGo [] s.ops = some m) (hr64 : -9223372036854775808 ≤ r ∧ r ≤ 9223372036854775807) (l9 more : List OpV) (m2 : List (Int × SgtV)) (S9 : List SeenV) (hS9 : S9 = seenL m2) (hl9 : l9.length ≤ 1048576) (hz9 : ∀ o ∈ l9, o.name.size ≤ 1048576 ∧ o.value.size ≤ 1048576) (hr2 : RiseG m2) (hm2 : m2.length ≤ 150) (htk : ∀ W P B, TkV W P (some ⟨b, off, none⟩) s.ops.length lc B → SgAt W B m → w.heap.size + 2 ≤ P → w.heap.size + 2 ≤ B → P ≠ B → w.heap.size + 2 ≤ W.heap.size → Below w.heap.size w W → Calls Try.prog 40 #[.pointer (some ⟨P, 0, none⟩), .int .i64 r, .int .i64 fr, .slice (some ⟨bl, ol, none⟩) l.length cl] W fun e w' => e = .returned (.int .i64 0) ∧ ∃ a c o2, TkS (w.heap.size + 2) W w' P a c B l9 bl o2 more ∧ SgAt w' B m2) : Calls Try.prog 10 #[s.agg (some ⟨b, off, none⟩) lc sa sc, .int .i64 r, .int .i64 fr, .slice (some ⟨bl, ol, none⟩) l.length cl] w fun e w' => IvT w w' e ⟨⟨l9, S9⟩, [], (sgOf m2 r).many, 0⟩ := by
  have hr := fun W (hW : Below w.heap.size w W) => serving_any s (some ⟨b, off, none⟩) sa lc sc W (Nat.le_trans hz.ops (by unfold maxLen; omega)) hlc (fun o ho => ⟨Nat.le_trans (hz.osz o ho).1 (by unfold maxLen; omega), Nat.le_trans (hz.osz o ho).2 (by unfold maxLen; omega)⟩) hz.seen (hA.stays hW) (hB.stays hW)
  have hsn := fun W (hW : Below w.heap.size w W) => sent_any r fr l (some ⟨bl, ol, none⟩) cl W hll (hL.stays hW) hLz
  have hB0 := SD.start w s (some ⟨b, off, none⟩) lc sa sc
  have HB0 := hide hB0
  obtain ⟨p0, p1⟩ := hB0.sb.cells
  have HR := hide hr
  have HSn := hide hsn
  have d1 : decide (400 < l.length) = false := by simpa using h1
  have HSr := hide hsr
  have HSe := hide hse
  have HGo := hide hgo
  have HTk := hide htk
  have hsv := fun a c B W (h1 : OpsAt W a l9) (h2 : SgAt W B m2) => server_any l9 a c B m2 W hl9 hz9 hr2 hm2 h1 h2
  rw [← hS9] at hsv
  have HSv := hide hsv
  obtain ⟨g9, hg9⟩ : ∃ g9, g9 = sgOf m2 r := ⟨_, rfl⟩
  have hof := fun W B (hW : SgAt W B m2) => of_any m2 B r W hr64 hW
  rw [← hg9] at hof
  have hfld := fun W => sight_many g9 W
  unfold SgtV.agg at hof
  have HOf := hide hof
  rw [← hg9]
  unfold SrvV.agg at *
  clear hr hsn hB0 hA hB hz hL hLz hsr hse hgo htk hof hg9 hsv hz9 hr2 hm2 hS9
  go_enter Try.func10, Try.ntmps10
  go_wp2_with (first | (go_at_call 38; (refine (HR.out _ HB0.out.sb.below).mono ?_); intro e w1 h1; obtain ⟨a1, n1, c1, x1, he, hb1, hm1⟩ := h1; obtain ⟨B, mm, ea, en, ec, ex, hgo1, hM1, hBg⟩ := hm1 HSr.out; rw [ea, en, ec, ex, HSr.out] at he; subst he; rw [HGo.out] at hgo1; cases hgo1; have HBl := hide hM1.lt; have HBg := hide hBg; have HG1 := hide hb1.size; have HB1 := hide ((HB0.out.step hb1).step (balloc w1 (.cells #[.slice (some ⟨b, off, none⟩) s.ops.length lc, .map (some B)] 75))); have HM1 := hide (hM1.stays (balloc w1 (.cells #[.slice (some ⟨b, off, none⟩) s.ops.length lc, .map (some B)] 75))); have HV1 := hide (show TkV (w1.alloc (.cells #[.slice (some ⟨b, off, none⟩) s.ops.length lc, .map (some B)] 75)) w1.heap.size (some ⟨b, off, none⟩) s.ops.length lc B from heap_alloc_new w1 _); clear p0 p1 hb1 hm1 hM1 hBg) | (go_at_call 39; (refine (HSn.out _ HB1.out.sb.below).mono ?_); rintro e w2 ⟨rfl, hb2⟩; rw [HSe.out]; have HB2 := hide (HB1.out.step hb2); have HM2 := hide (HM1.out.stays hb2); have HV2 := hide (HV1.out.step hb2); have HS2 := hide hb2.size; clear hb2) | (go_at_call 40; have hge1 : w.heap.size + 2 ≤ w1.heap.size := (by have := HG1.out; simp at this; omega); have hge2 : w.heap.size + 2 ≤ B := (by have := HBg.out; simp at this; omega); have hge3 : w.heap.size + 2 ≤ w2.heap.size := (by have := HS2.out; have := base_alloc w1 (.cells #[.slice (some ⟨b, off, none⟩) s.ops.length lc, .map (some B)] 75); omega); (refine (HTk.out _ _ _ HV2.out HM2.out hge1 hge2 (fun e => by have := HBl.out; omega) hge3 HB2.out.sb.below).mono ?_); rintro e w3 ⟨rfl, a3, c3, o3, hS3, hM3⟩; have HB3 := hide (HB2.out.low hS3.below (by omega)); have HM3 := hide hM3; have HV3 := hide hS3.var; have HO3 := hide hS3.ops; have HGe := hide hge1; clear hS3 hM3 hge1 hge2 hge3) | (go_at_call 37; (refine (code_any _ (by omega) _).mono ?_); intro e we h2; obtain ⟨rfl, hwe⟩ := h2; have hBe := HB3.out; have hVe := HV3.out; have hMe := HM3.out; have hOe := HO3.out; rw [hwe] at hBe hVe hMe hOe; clear hwe; have HBe := hide hBe; have HMe := hide hMe; have HVe := hide hVe; have HOe := hide hOe; have rr := (fun o => (hBe.step (balloc we o)).res); have pv := (fun o => (TkV.step hVe (balloc we o)).cells.2.1); have r0 := (fun o => (five_ (rr o)).1); have r1 := (fun o => (five_ (rr o)).2.1); have r2 := (fun o => (five_ (rr o)).2.2.1); have r3 := (fun o => (five_ (rr o)).2.2.2.1); have r4 := (fun o => (five_ (rr o)).2.2.2.2.1); have fr_ := (fun o => (five_ (rr o)).2.2.2.2.2); clear rr hBe hVe hMe hOe) | (go_at_call 41; (refine (HOf.out _ B (HMe.out.stays (balloc we (.cells #[.slice none 0 0, .slice none 0 0, .slice none 0 0, .int .i64 0, .int .i64 (codeOf 0)] 33)))).mono ?_); rintro e w4 ⟨rfl, hb4⟩; have hB4 := (HBe.out.step (balloc we (.cells #[.slice none 0 0, .slice none 0 0, .slice none 0 0, .int .i64 0, .int .i64 (codeOf 0)] 33))).step hb4; have HB4 := hide hB4; have hV4 := (HVe.out.step (balloc we (.cells #[.slice none 0 0, .slice none 0 0, .slice none 0 0, .int .i64 0, .int .i64 (codeOf 0)] 33))).step hb4; have hO4 := (hb4.block _ (lt_alloc we _)).trans (heap_alloc_new we (.cells #[.slice none 0 0, .slice none 0 0, .slice none 0 0, .int .i64 0, .int .i64 (codeOf 0)] 33)); have HO4 := hide hO4; have hlt4 := HBe.out.lt; have hlt5 := HVe.out.lt; have hne1 : ¬ (we.heap.size = w.heap.size + 1) := (fun e => by omega); have hne2 : ¬ (w.heap.size + 1 = we.heap.size) := (fun e => by omega); have hne3 : ¬ (we.heap.size = w1.heap.size) := (fun e => by omega); have hne4 : ¬ (w1.heap.size = we.heap.size) := (fun e => by omega); have hwl4 := Nat.lt_of_lt_of_le (lt_alloc we (.cells #[.slice none 0 0, .slice none 0 0, .slice none 0 0, .int .i64 0, .int .i64 (codeOf 0)] 33)) hb4.size; have HWl := hide hwl4; have HL5 := hide (((balloc we (.cells #[.slice none 0 0, .slice none 0 0, .slice none 0 0, .int .i64 0, .int .i64 (codeOf 0)] 33)).trans (hb4.mono (base_alloc we _))).setCell (p := ⟨we.heap.size, 3, none⟩) (Nat.le_refl _) (.int .i64 g9.many)); clear r0 r1 r2 r3 r4 fr_ pv hb4 hlt4 hlt5 hwl4; obtain ⟨r0, r1, r2, r3, r4, fr_⟩ := five_ hB4.res; obtain ⟨q0, q1, q2, q3, q4, fq⟩ := five_ hO4; obtain ⟨t0, t1, _⟩ := hV4.cells; clear hB4 hO4 hV4) | (go_at_call 42; (refine (HSv.out a3 c3 B _ (HOe.out.stays HL5.out) (HMe.out.stays HL5.out)).mono ?_); intro e w6 h6; obtain ⟨g6, a6, c6, he6, hi6, hs6, hk6, hg6, ha6, hb6⟩ := h6; have he7 : e = .returned (.agg #[.slice (some ⟨g6, 0, none⟩) l9.length l9.length, .slice a6 S9.length c6]) := he6; subst he7; have hw5 : (w4.setCell ⟨we.heap.size, 3, none⟩ (.int .i64 g9.many)).heap.size = w4.heap.size := (by simp [World.setCell]); have hwl := HWl.out; have hltr := HBe.out.lt; have hB6 := (hb6.block _ (by rw [hw5]; omega)).trans ((Below.heap_setCell _ _ _ _ (by show w.heap.size + 1 ≠ we.heap.size; omega)).trans HB4.out.res); have hO6 := (hb6.block _ (by rw [hw5]; omega)).trans (set_block HO4.out 3 (.int .i64 g9.many)); have hX6 : Below w.heap.size w w6 := (HB4.out.sb.below.setCell (p := ⟨we.heap.size, 3, none⟩) (by show w.heap.size ≤ we.heap.size; omega) (.int .i64 g9.many)).trans (hb6.mono (by rw [hw5]; have := HB4.out.sb.below.size; exact this)); rw [hw5] at hg6 ha6; have HX6 := hide (And.intro hi6 (And.intro hs6 (And.intro hk6 (And.intro hg6 (And.intro ha6 hX6))))); clear r0 r1 r2 r3 r4 fr_ q0 q1 q2 q3 q4 fq t0 t1 he6 hi6 hs6 hk6 hg6 ha6 hb6 hw5 hwl hltr hX6; obtain ⟨r0, r1, r2, r3, r4, fr_⟩ := five_ hB6; obtain ⟨q0, q1, q2, q3, q4, fq⟩ := five_ hO6; clear hB6 hO6) | fail)
  obtain ⟨hi6, hs6, hk6, hg6, ha6, hX6⟩ := HX6.out
  have hwl := HWl.out
  have hltr := HBe.out.lt
  refine bodyPost_ret (v := .agg #[.slice (some ⟨g6, 0, none⟩) l9.length l9.length, .slice a6 S9.length c6, .slice none 0 0, .int .i64 g9.many, .int .i64 0]) (by simp [results, Try.results10, go_sem, codeOf, r0, r1, r2, r3, r4]) rfl ?_
  refine iv_end (x := ⟨l9, S9⟩) (N := w4.heap.size) hi6 hs6 hk6 (by simp [World.setCell]) (fun k hk => (other5 rfl (by omega) _ _ _ _ _).trans (other2 (by omega) _ _)) hg6 ha6 (by omega) (below5 ((hX6.setCell (p := ⟨we.heap.size, 0, none⟩) (by show w.heap.size ≤ we.heap.size; omega) _).setCell (p := ⟨we.heap.size, 1, none⟩) (by show w.heap.size ≤ we.heap.size; omega) _) (by omega) _ _ _ _ _)
end Go.Proofs.Ytdjjpaleemnikaa.OpR
namespace Go.Proofs.Ytdjjpaleemnikaa.OpR
open Go.ChangeShapes Go.WideShapes Go.ChangeAt Go.RowKit
set_option linter.unusedVariables false

theorem putAll_rise : ∀ (l : List OpV) {m : List (Int × SgtV)}, RiseG m → RiseG (putAll m l)
  | [], m, h => h
  | o :: l, m, h => putAll_rise l (m := sgPutOp m o) (sgPut_rise h _ _)
theorem putAll_few : ∀ (l : List OpV) {m : List (Int × SgtV)} {k : Nat}, SgFew m k → SgFew (putAll m l) (k + l.length)
  | [], m, k, h => h
  | o :: l, m, k, h => by
    have h2 := putAll_few l (h.put o)
    rw [List.length_cons, show k + (l.length + 1) = k + 1 + l.length by omega]
    exact h2
theorem log_repl {l : List OpV} (h : logRight l = true) : Repl64 l := by
  intro o ho
  unfold logRight at h
  simp only [Bool.and_eq_true] at h
  obtain ⟨j, hj, rfl⟩ := List.getElem_of_mem ho
  have h1 := (allRight_iff l).1 h.1 j hj
  unfold opRight isIn at h1
  simp only [Bool.and_eq_true, decide_eq_true_eq] at h1
  omega
theorem inv_few {s : SrvV} {m : List (Int × SgtV)} (hO : opsRight s.ops = true) (hg : seenGo [] s.ops = some m) (hI : SeenInv s.ops m) : SgFew m s.ops.length := by
  refine ⟨by have := sg_len _ _ _ hg; simpa using this, fun r => ?_⟩
  rw [hI.sg r]
  have := own_len s.ops r
  show 0 ≤ ((ownB s.ops r).length : Int) ∧ ((ownB s.ops r).length : Int) ≤ _
  omega
theorem upRes_no {s : SrvV} {r fr : Int} {l : List OpV} (h1 : ¬ 400 < l.length) (h : (srvRight s && sentR r fr l) = false) : upRes s r fr l = SOutV.ill 0 1 := by
  unfold upRes
  rw [if_neg h1, if_pos h]
theorem upRes_yes {s : SrvV} {r fr : Int} {l : List OpV} {m : List (Int × SgtV)} (h1 : ¬ 400 < l.length) (h : srvRight s = true) (h2 : sentR r fr l = true) (hg : seenGo [] s.ops = some m) : upRes s r fr l = upTold m s r fr l := by
  unfold upRes
  rw [if_neg h1, if_neg (by rw [h, h2]; decide), hg]
theorem sent_is {r fr : Int} {l : List OpV} (h : sentR r fr l = true) : (1 ≤ r ∧ r ≤ 50) ∧ 0 ≤ fr ∧ logRight l = true := by
  unfold sentR isIn at h
  simp only [Bool.and_eq_true, decide_eq_true_eq] at h
  exact ⟨h.1, h.2.1, h.2.2.1⟩
/-- What impl.Upload answers. -/
theorem iUp_any (s : SrvV) (b off lc : Nat) (sa : Option Addr) (sc : Nat) (r fr : Int) (l : List OpV) (bl ol cl : Nat) (w : World) (hz : SSz 1048576 s) (hlc : s.ops.length ≤ lc) (hA : OpsAt w (some ⟨b, off, none⟩) s.ops) (hB : SeensAt w sa s.seen) (hll : l.length ≤ 1048576) (hcl : l.length ≤ cl) (hL : OpsAt w (some ⟨bl, ol, none⟩) l) (hLz : Sized l) (hbl : bl < w.heap.size) (hls : ∀ o ∈ l, o.name.size ≤ 1048576 ∧ o.value.size ≤ 1048576) : Calls Try.prog 10 #[s.agg (some ⟨b, off, none⟩) lc sa sc, .int .i64 r, .int .i64 fr, .slice (some ⟨bl, ol, none⟩) l.length cl] w fun e w' => IvT w w' e (upRes s r fr l) := by
  by_cases h1 : 400 < l.length
  · rw [show upRes s r fr l = SOutV.ill 0 2 by unfold upRes; rw [if_pos h1]]
    exact iUp_1 s b off lc sa sc r fr l bl ol cl w hz hlc hA hB hll hcl hL hLz hbl h1
  cases hsr : srvRight s
  · rw [upRes_no h1 (by rw [hsr]; rfl)]
    exact iUp_2 s b off lc sa sc r fr l bl ol cl w hz hlc hA hB hll hcl hL hLz hbl h1 hsr
  cases hse : sentR r fr l
  · rw [upRes_no h1 (by rw [hsr, hse]; rfl)]
    exact iUp_3 s b off lc sa sc r fr l bl ol cl w hz hlc hA hB hll hcl hL hLz hbl h1 hsr hse
  have hS := (srv_iff s).1 hsr
  obtain ⟨m, hgo, hI, _⟩ := hS.inv
  have hO : opsRight s.ops = true := (ops_iff _).2 hS.ops
  have hF := inv_few hO hgo hI
  have h150 := hS.ops.1
  obtain ⟨hr0, hfr0, hlg⟩ := sent_is hse
  have hr64 : -9223372036854775808 ≤ r ∧ r ≤ 9223372036854775807 := by omega
  have hq := hF.2 r
  have hq2 : 0 ≤ (sgOf m r).many ∧ (sgOf m r).many ≤ 150 := by omega
  have hl4 : l.length ≤ 400 := by omega
  rw [upRes_yes h1 hsr hse hgo]
  unfold upTold
  by_cases h3 : (sgOf m r).many < fr
  · rw [if_pos h3]
    exact iUp_t3 s b off lc sa sc r fr l bl ol cl w hz hlc hA hB hll hcl hL hLz hbl h1 hsr hse m hgo hr64 (fun W P B hP hM hW => take_no m P B r fr s.ops l _ lc bl ol cl W hP [] 3 (by decide) (by decide) (fresh_3 m B r fr l bl ol cl W hr64 hM hq2 hfr0 hl4 hcl (hL.stays hW) h3))
  rw [if_neg h3]
  obtain ⟨more, hmo⟩ : ∃ more, more = freshOps (sgOf m r).many fr l := ⟨_, rfl⟩
  rw [← hmo]
  have hfs := fun W B (hM : SgAt W B m) (hW : Below w.heap.size w W) => fresh_0 m B r fr l bl ol cl W hr64 hM hq2 hfr0 hl4 hcl (hL.stays hW) h3 more hmo
  have hml : more.length ≤ 400 := by rw [hmo]; unfold freshOps; rw [List.length_drop]; omega
  have hmm : ∀ o ∈ more, o ∈ l := fun o ho => by rw [hmo] at ho; exact List.mem_of_mem_drop ho
  by_cases h4 : lateB (sgOf m r) more = true
  · rw [if_pos h4]
    rw [h4] at hfs
    exact iUp_t4 s b off lc sa sc r fr l bl ol cl w hz hlc hA hB hll hcl hL hLz hbl h1 hsr hse m hgo (fun W P B hP hM hW => take_no m P B r fr s.ops l _ lc bl ol cl W hP more 4 (by decide) (by decide) (hfs W B hM hW))
  rw [if_neg h4]
  simp only [h4, if_false, Bool.false_eq_true] at hfs
  by_cases h5 : 150 < s.ops.length + more.length
  · rw [if_pos h5]
    exact iUp_t5 s b off lc sa sc r fr l bl ol cl w hz hlc hA hB hll hcl hL hLz hbl h1 hsr hse m hgo (fun W P B hP hM hW => take_full m P B r fr s.ops l _ lc bl ol cl W hP more h150 hml h5 (hfs W B hM hW))
  rw [if_neg h5]
  have hfp := putAll_few more hF
  exact iUp_ok s b off lc sa sc r fr l bl ol cl w hz hlc hA hB hll hcl hL hLz hbl h1 hsr hse m hgo hr64 (s.ops ++ more) more (putAll m more) _ rfl (by rw [List.length_append]; omega) (fun o ho => by
    rcases List.mem_append.1 ho with ho | ho
    · exact hz.osz o ho
    · exact hls o (hmm o ho)) (putAll_rise more hI.rise) (by have := hfp.1; omega) (fun W P B hP hM hPb hBb hne hbase hW => take_ok m P B r fr s.ops l _ lc bl ol cl W hP more (w.heap.size + 2) h150 (by omega) hF (fun o ho => log_repl hlg o (hmm o ho)) hPb hBb hne (by omega) hbase (hA.stays hW) hM (hfs W B hM hW))
end Go.Proofs.Ytdjjpaleemnikaa.OpR
namespace Go.Proofs.Ytdjjpaleemnikaa.OpR
open Go.ChangeShapes Go.WideShapes Go.ChangeAt Go.RowKit
set_option linter.unusedVariables false

theorem seenMany_L (m : List (Int × SgtV)) (r : Int) : seenMany (seenL m) r = (sgOf m r).many := by
  unfold seenMany seenL sgOf sgAt
  rw [List.find?_map]
  have e : ((fun x : SeenV => decide (x.repl = r)) ∘ fun p : Int × SgtV => (⟨p.1, p.2.many⟩ : SeenV)) = fun p : Int × SgtV => decide (p.1 = r) := rfl
  rw [e]
  cases m.find? (fun p => decide (p.1 = r)) <;> rfl
theorem own_all {l : List OpV} {r : Int} : (ownB l r).length = l.length ↔ allB l r = true := by
  unfold ownB allB
  rw [List.length_filter_eq_length_iff, List.all_eq_true]
  simp only [decide_eq_true_eq, beq_iff_eq]
theorem sent_eq (r fr : Int) (l : List OpV) : sentR r fr l = (opsRight l && (rises l && (isIn r 1 50 && (decide (0 ≤ fr) && allB l r)))) := by
  have h1 : logRight l = (opsRight l && rises l) := by
    cases h : logRight l
    · symm
      rw [Bool.and_eq_false_iff]
      by_cases h2 : opsRight l = true
      · right
        by_cases h3 : rises l = true
        · have a := (ops_iff l).1 h2
          exact absurd ((log_iff l).2 ⟨a.2.1, a.1, (rises_iff l).1 h3⟩) (by rw [h]; decide)
        · exact Bool.eq_false_iff.2 h3
      · exact .inl (Bool.eq_false_iff.2 h2)
    · obtain ⟨a, b, c⟩ := (log_iff l).1 h
      symm
      rw [Bool.and_eq_true]
      refine ⟨ops_yes ⟨b, a, fun i k hi hk => ?_⟩, rises_yes c⟩
      have hA := strict_apart (rises_strict c)
      exact (List.pairwise_iff_getElem.1 hA k i (by omega) hi hk)
  have h2 : decide ((ownB l r).length = l.length) = allB l r := by
    cases h : allB l r
    · exact decide_eq_false fun e => by rw [own_all.1 e] at h; cases h
    · exact decide_eq_true (own_all.2 h)
  unfold sentR
  rw [h1, h2]
  cases isIn r 1 50 <;> cases decide (0 ≤ fr) <;> cases opsRight l <;> cases rises l <;> cases allB l r <;> rfl
theorem ops_of_sent {r fr : Int} {l : List OpV} (h : sentR r fr l = true) : opsRight l = true ∧ rises l = true ∧ isIn r 1 50 = true ∧ decide (0 ≤ fr) = true ∧ allB l r = true := by
  rw [sent_eq] at h
  simp only [Bool.and_eq_true] at h
  exact ⟨h.1, h.2.1, h.2.2.1, h.2.2.2.1, h.2.2.2.2⟩
theorem allB_mem {l : List OpV} {r : Int} (h : allB l r = true) : ∀ o ∈ l, o.repl = r := fun o ho => by
  unfold allB at h
  have := List.all_eq_true.1 h o ho
  simpa using this
theorem putAll_other : ∀ (l : List OpV) {r : Int} {m : List (Int × SgtV)}, (∀ o ∈ l, o.repl = r) → ∀ x, x ≠ r → sgAt (putAll m l) x = sgAt m x
  | [], r, m, _, x, _ => rfl
  | o :: l, r, m, h, x, hx => by
    show sgAt (putAll (sgPutOp m o) l) x = _
    rw [putAll_other l (fun y hy => h y (by simp [hy])) x hx]
    unfold sgPutOp
    have : o.repl = r := h o (by simp)
    rw [sgAt_put_other _ _ (by rw [this]; exact hx)]
theorem putAll_own : ∀ (l : List OpV) {r : Int} {m : List (Int × SgtV)}, (∀ o ∈ l, o.repl = r) → (sgOf (putAll m l) r).many = (sgOf m r).many + (l.length : Int) ∧ (l ≠ [] → (sgAt (putAll m l) r).isSome = true)
  | [], r, m, _ => ⟨by show (sgOf m r).many = _; simp, fun h => absurd rfl h⟩
  | o :: l, r, m, h => by
    obtain ⟨h1, h2⟩ := putAll_own l (m := sgPutOp m o) (fun y hy => h y (by simp [hy]))
    have ho : o.repl = r := h o (by simp)
    have e : (sgOf (sgPutOp m o) r) = ⟨(sgOf m r).many + 1, o⟩ := by
      unfold sgPutOp
      rw [← ho]
      unfold sgOf
      rw [sgAt_put_same]
      rfl
    refine ⟨?_, fun _ => ?_⟩
    · show (sgOf (putAll (sgPutOp m o) l) r).many = _
      rw [h1, e, List.length_cons]
      show (sgOf m r).many + 1 + (l.length : Int) = _
      omega
    · show (sgAt (putAll (sgPutOp m o) l) r).isSome = true
      by_cases hl : l = []
      · subst hl
        show (sgAt (sgPutOp m o) r).isSome = true
        unfold sgPutOp
        rw [← ho, sgAt_put_same]
        rfl
      · exact h2 hl
theorem seenL_mem {m : List (Int × SgtV)} (hr : RiseG m) (y : SeenV) : y ∈ seenL m ↔ ∃ s, sgAt m y.repl = some s ∧ s.many = y.many := by
  unfold seenL
  constructor
  · intro h
    obtain ⟨p, hp, rfl⟩ := List.mem_map.1 h
    exact ⟨p.2, sgAt_of hr hp, rfl⟩
  · rintro ⟨s, h1, h2⟩
    refine List.mem_map.2 ⟨_, sgAt_mem h1, ?_⟩
    obtain ⟨a, b⟩ := y
    simp only at h2 ⊢
    rw [h2]
/-- What is put at its place stands in order. -/
theorem see_put {l : List SeenV} {x : SeenV} {k k' : Nat} (hr : l.Pairwise fun a b => a.repl < b.repl) (h : SeeIs l x k k') : (l.take k ++ [x] ++ l.drop k').Pairwise (fun a b => a.repl < b.repl) ∧ ∀ y, y ∈ l.take k ++ [x] ++ l.drop k' ↔ (y = x ∨ (y ∈ l ∧ y.repl ≠ x.repl)) := by
  obtain ⟨hk, hlo, hhi⟩ := h
  have idx := List.pairwise_iff_getElem.1 hr
  have lo : ∀ y ∈ l.take k, y.repl < x.repl := fun y hy => by
    obtain ⟨i, hi, rfl⟩ := List.getElem_of_mem hy
    rw [List.length_take] at hi
    rw [List.getElem_take]
    exact hlo i (by omega) (by omega)
  have hi_ : ∀ i (h : i < l.length), k' ≤ i → x.repl < l[i].repl := fun i hi hki => by
    rcases hhi with ⟨h1, h2, h3⟩ | ⟨h1, h2⟩
    · have := idx k i h1 hi (by omega)
      omega
    · have h3 := h1 (by omega)
      by_cases e : i = k
      · subst e; exact h3
      · have := idx k i (by omega) hi (by omega)
        omega
  have hi' : ∀ y ∈ l.drop k', x.repl < y.repl := fun y hy => by
    obtain ⟨i, hi, rfl⟩ := List.getElem_of_mem hy
    rw [List.length_drop] at hi
    rw [List.getElem_drop]
    exact hi_ _ (by omega) (by omega)
  constructor
  · rw [List.append_assoc, List.pairwise_append]
    refine ⟨hr.sublist (List.take_sublist _ _), ?_, fun a ha b hb => ?_⟩
    · rw [List.singleton_append, List.pairwise_cons]
      exact ⟨hi', hr.sublist (List.drop_sublist _ _)⟩
    · have h1 := lo a ha
      rcases List.mem_append.1 hb with hb | hb
      · rw [List.mem_singleton.1 hb]; exact h1
      · have := hi' b hb; omega
  · intro y
    rw [List.mem_append, List.mem_append, List.mem_singleton]
    constructor
    · rintro ((h1 | h1) | h1)
      · exact .inr ⟨List.mem_of_mem_take h1, by have := lo y h1; omega⟩
      · exact .inl h1
      · exact .inr ⟨List.mem_of_mem_drop h1, by have := hi' y h1; omega⟩
    · rintro (h1 | ⟨h1, h2⟩)
      · exact .inl (.inr h1)
      · obtain ⟨i, hi, rfl⟩ := List.getElem_of_mem h1
        by_cases e : i < k
        · exact .inl (.inl (List.mem_take_iff_getElem.2 ⟨i, by omega, rfl⟩))
        · refine .inr (List.mem_drop_iff_getElem.2 ⟨i - k', ?_, ?_⟩)
          · rcases hhi with ⟨h3, h4, h5⟩ | ⟨h3, h4⟩
            · have : i ≠ k := fun e2 => by subst e2; exact h2 h4
              omega
            · omega
          · have e3 : k' + (i - k') = i := by
              rcases hhi with ⟨h3, h4, h5⟩ | ⟨h3, h4⟩
              · have : i ≠ k := fun e2 => by subst e2; exact h2 h4
                omega
              · omega
            simp only [e3]
theorem sgOf_some {m : List (Int × SgtV)} {r : Int} {s : SgtV} (h : sgAt m r = some s) : sgOf m r = s := by unfold sgOf; rw [h]; rfl
theorem sgOf_none {m : List (Int × SgtV)} {r : Int} (h : sgAt m r = none) : (sgOf m r).many = 0 := by unfold sgOf; rw [h]; rfl
theorem putAll_rise' : ∀ (l : List OpV) {m : List (Int × SgtV)}, RiseG m → RiseG (putAll m l)
  | [], m, h => h
  | o :: l, m, h => putAll_rise' l (m := sgPutOp m o) (sgPut_rise h _ _)
theorem see_is {m : List (Int × SgtV)} (hm : RiseG m) {r : Int} {more : List OpV} (hall : ∀ o ∈ more, o.repl = r) {k k' : Nat} (hn : (sgOf m r).many + (more.length : Int) ≠ 0) (h : SeeIs (seenL m) ⟨r, (sgOf m r).many + (more.length : Int)⟩ k k') :
    (seenL m).take k ++ [⟨r, (sgOf m r).many + (more.length : Int)⟩] ++ (seenL m).drop k' = seenL (putAll m more) := by
  obtain ⟨h1, h2⟩ := see_put (seenL_rise hm) h
  have hM := putAll_rise' more hm
  refine rise_ext _ _ h1 (seenL_rise hM) fun y => ?_
  rw [h2 y, seenL_mem hm, seenL_mem hM]
  obtain ⟨p1, p2⟩ := putAll_own more (m := m) hall
  by_cases hy : y.repl = r
  · constructor
    · rintro (e | ⟨_, e⟩)
      · subst e
        show ∃ s, sgAt (putAll m more) r = some s ∧ _
        cases hs : sgAt (putAll m more) r with
        | some s => exact ⟨s, rfl, by rw [sgOf_some hs] at p1; exact p1⟩
        | none =>
          rw [sgOf_none hs] at p1
          exact absurd p1.symm hn
      · exact absurd hy e
    · rintro ⟨s, hs, e⟩
      left
      rw [hy] at hs
      rw [sgOf_some hs] at p1
      obtain ⟨a, b⟩ := y
      simp only at hy e
      rw [hy, ← e, p1]
  · rw [putAll_other more hall _ hy]
    constructor
    · rintro (e | ⟨e, _⟩)
      · exact absurd (by rw [e]) hy
      · exact e
    · exact fun e => .inr ⟨e, hy⟩
end Go.Proofs.Ytdjjpaleemnikaa.OpR
namespace Go.Proofs.Ytdjjpaleemnikaa.OpR
open Go.ChangeShapes Go.WideShapes Go.ChangeAt Go.RowKit
set_option linter.unusedVariables false

theorem seens_setP {W : World} {P i : Nat} {v : Value} {a : Option Addr} {l : List SeenV} (h : SeensAt W a l) (hne : ∀ x, a = some x → x.block ≠ P) : SeensAt (W.setCell ⟨P, i, none⟩ v) a l := h.block_ (by simp [World.setCell]) (fun x e => Below.heap_setCell _ _ _ _ (hne x e))
theorem seens_grown {w w' : World} {row : Option Nat} {ao : Option Addr} {l : List SeenV} (h : SeensAt w ao l) (hg : w.grownBy w' row) (hl : ∀ a, ao = some a → a.block < w.heap.size) (hr : ∀ a, ao = some a → row ≠ some a.block) : SeensAt w' ao l := h.block_ hg.size (fun a e => hg.block _ (hl a e) (fun e2 => hr a e e2.symm))
theorem SLt.op0 {w W : World} {s : SrvV} {la : Option Addr} {lc : Nat} {sa : Option Addr} {sc g2 : Nat} {own : List OpV} {bl o2 : Nat} {more : List OpV} (h : SLt w W s la lc sa sc g2 own bl o2 more) (h0 : 0 < more.length) {o : OpV} (hoq : more[0] = o) : OpAt W bl o2 o := by
  subst hoq
  obtain ⟨b', off', e, _, h1⟩ := h.more 0 h0
  cases e
  simpa using h1
/-- A row that the call owns is no struct. -/
theorem owns_ne {w : World} {base B n k c : Nat} {T T' : TypeId} {a : Option Addr} {xs : List Value} {cs : Array Value} (h : w.ownsRow base T k (.slice a n c) n xs) (hB : w.heap[B]? = some (.cells cs T' (0, 0))) (hne : T ≠ T') : ∀ x, a = some x → base ≤ x.block ∧ x.block ≠ B ∧ x.block < w.heap.size := by
  rintro x rfl
  have hl := h.lt x.block rfl
  refine ⟨hl.1, fun e => ?_, hl.2⟩
  rcases h.2 with ⟨e2, _⟩ | ⟨g, cap, cur, e2, _, h3, _⟩
  · cases e2
  · cases e2
    have h4 : w.heap[B]? = some (.cells cur T (0, 0)) := by rw [← e]; exact h3
    rw [hB] at h4
    cases h4
    exact hne rfl
/-- A server, the answer's own, and the copy in a variable. -/
structure SU (w W : World) (s : SrvV) (la : Option Addr) (lc : Nat) (sa : Option Addr) (sc B : Nat) (v0 v1 : Value) : Prop where
  sd : SD w W s la lc sa sc
  box : W.heap[B]? = some (.cells #[v0, v1] 31 (0, 0))
  hB : w.heap.size + 2 ≤ B
section
variable {w W W' : World} {s : SrvV} {la : Option Addr} {lc : Nat} {sa : Option Addr} {sc B : Nat} {v0 v1 : Value}
theorem SU.lt (h : SU w W s la lc sa sc B v0 v1) : B < W.heap.size := (Array.getElem?_eq_some_iff.1 h.box).1
theorem SU.new (h : SD w W s la lc sa sc) (v0 v1 : Value) : SU w (W.alloc (.cells #[v0, v1] 31)) s la lc sa sc W.heap.size v0 v1 := ⟨h.step (balloc W _), heap_alloc_new W _, h.lt⟩
theorem SU.step (h : SU w W s la lc sa sc B v0 v1) (hb : Below W.heap.size W W') : SU w W' s la lc sa sc B v0 v1 := ⟨h.sd.step hb, (hb.block _ h.lt).trans h.box, h.hB⟩
theorem SD.gr (h : SD w W s la lc sa sc) {g : Nat} (hg : W.grownBy W' (some g)) (hge : w.heap.size + 2 ≤ g) : SD w W' s la lc sa sc :=
  have hlt := h.lt
  ⟨⟨(hg.block _ (by omega) (fun e => by cases e; omega)).trans h.sb.srv, h.sb.below.grown hg h.sb.below.size (fun k e => by cases e; omega)⟩, (hg.block _ hlt (fun e => by cases e; omega)).trans h.res⟩
theorem SD.set (h : SD w W s la lc sa sc) (hB : w.heap.size + 2 ≤ B) (i : Nat) (v : Value) : SD w (W.setCell ⟨B, i, none⟩ v) s la lc sa sc := ⟨h.sb.set (by omega) (by omega), (Below.heap_setCell _ _ _ _ (by show w.heap.size + 1 ≠ B; omega)).trans h.res⟩
theorem SU.gr (h : SU w W s la lc sa sc B v0 v1) {g : Nat} (hg : W.grownBy W' (some g)) (hge : w.heap.size + 2 ≤ g) (hne : g ≠ B) : SU w W' s la lc sa sc B v0 v1 := ⟨h.sd.gr hg hge, (hg.block _ h.lt (fun e => by cases e; exact hne rfl)).trans h.box, h.hB⟩
theorem SU.set0 (h : SU w W s la lc sa sc B v0 v1) (v : Value) : SU w (W.setCell ⟨B, 0, none⟩ v) s la lc sa sc B v v1 := ⟨h.sd.set h.hB 0 v, (set_block h.box 0 v).trans rfl, h.hB⟩
theorem SU.set1 (h : SU w W s la lc sa sc B v0 v1) (v : Value) : SU w (W.setCell ⟨B, 1, none⟩ v) s la lc sa sc B v0 v := ⟨h.sd.set h.hB 1 v, (set_block h.box 1 v).trans rfl, h.hB⟩
theorem SU.two_ (h : SU w W s la lc sa sc B v0 v1) : W.cell? ⟨B, 0, none⟩ = some v0 ∧ W.cell? ⟨B, 1, none⟩ = some v1 ∧ ∀ i, W.frozen? ⟨B, i, none⟩ = false := two h.box
end
/-- What spec.l07See makes here. -/
theorem see_any {m : List (Int × SgtV)} (hm : RiseG m) {r : Int} {more : List OpV} (hall : ∀ o ∈ more, o.repl = r) (h0 : 0 ≤ (sgOf m r).many) (b off cap : Nat) (W : World) (hl : (seenL m).length ≤ 1048576) (hcap : (seenL m).length ≤ cap) (hA : SeensAt W (some ⟨b, off, none⟩) (seenL m)) :
    Calls Try.prog 34 #[.slice (some ⟨b, off, none⟩) (seenL m).length cap, .agg #[.int .i64 r, .int .i64 ((sgOf m r).many + (more.length : Int))]] W fun e w' => ∃ v, e = .returned v ∧ w'.ownsRow W.heap.size 67 2 v (seenL (putAll m more)).length (flatG SeenV.cells (seenL (putAll m more))) ∧ Below W.heap.size W w' := by
  by_cases hn : (sgOf m r).many + (more.length : Int) = 0
  · have hmo : more = [] := List.eq_nil_of_length_eq_zero (by omega)
    subst hmo
    exact see_0 (seenL m) b off cap ⟨r, _⟩ W hl hcap hA hn
  · refine (see_1 (seenL m) b off cap ⟨r, _⟩ W hl hcap hA hn).mono ?_
    rintro e w' ⟨k, k', hs, v, rfl, ho, hb⟩
    rw [see_is hm hall hn hs] at ho
    exact ⟨v, rfl, ho, hb⟩
end Go.Proofs.Ytdjjpaleemnikaa.OpR
namespace Go.Proofs.Ytdjjpaleemnikaa.OpR
open Go.ChangeShapes Go.WideShapes Go.ChangeAt Go.RowKit
set_option linter.unusedVariables false

set_option maxRecDepth 100000 in
set_option maxHeartbeats 4000000 in
theorem sUp_full_a (s : SrvV) (b off lc : Nat) (sa : Option Addr) (sc : Nat) (r fr : Int) (l : List OpV) (bl ol cl : Nat) (w : World) (hz : SSz 1048576 s) (hlc : s.ops.length ≤ lc) (hA : OpsAt w (some ⟨b, off, none⟩) s.ops) (hB : SeensAt w sa s.seen) (hll : l.length ≤ 1048576) (hcl : l.length ≤ cl) (hL : OpsAt w (some ⟨bl, ol, none⟩) l) (hLz : Sized l) (h1 : ¬ 400 < l.length) (f0 : srvRight s = true) (f1 : opsRight l = true) (f2 : rises l = true) (f3 : isIn r 1 50 = true) (f4 : decide (0 ≤ fr) = true) (f5 : allB l r = true) (n : Int) (hn : seenMany s.seen r = n) (hnf : ¬ n < fr) (hn0 : 0 ≤ n ∧ n ≤ 150) (own more : List OpV) (hown : ownB s.ops r = own) (hmo : more = freshOps n fr l) (hc : more = []) (hf0 : 0 ≤ fr) (hll4 : l.length ≤ 400) (hfu : 150 < s.ops.length + more.length) : Calls Try.prog 7 #[s.agg (some ⟨b, off, none⟩) lc sa sc, .int .i64 r, .int .i64 fr, .slice (some ⟨bl, ol, none⟩) l.length cl] w fun e w' => SvT w w' e (SOutV.ill 0 9) := by
  have hopl : s.ops.length ≤ 150 := ((srv_iff s).1 f0).ops.1
  have hmol : more.length ≤ 400 := by rw [hmo]; unfold freshOps; rw [List.length_drop]; omega
  have HWL := hide (show wrap64 ((s.ops.length : Int) + (more.length : Int)) = (s.ops.length : Int) + (more.length : Int) by unfold wrap64; omega)
  have HWL2 := hide (show IntKind.i64.wrap ((s.ops.length : Int) + (more.length : Int)) = (s.ops.length : Int) + (more.length : Int) by rw [IntKind.wrap_i64]; omega)
  have d7 : decide (150 < s.ops.length + more.length) = true := by simpa using hfu
  have d8 : decide ((150 : Int) < (s.ops.length : Int) + (more.length : Int)) = true := by simp; omega
  have hr := fun W (hW : Below w.heap.size w W) => sSrv_any s (some ⟨b, off, none⟩) sa lc sc W (Nat.le_trans hz.ops (by unfold maxLen; omega)) (fun o ho => ⟨Nat.le_trans (hz.osz o ho).1 (by unfold maxLen; omega), Nat.le_trans (hz.osz o ho).2 (by unfold maxLen; omega)⟩) hz.seen (hA.stays hW) (hB.stays hW)
  have ho := fun W (hW : Below w.heap.size w W) => sOps_any l (some ⟨bl, ol, none⟩) cl W (Nat.le_trans hll (by unfold maxLen; omega)) (hL.stays hW) hLz
  have hi := fun W (hW : Below w.heap.size w W) => rises_any l (some ⟨bl, ol, none⟩) cl W (Nat.le_trans hll (by unfold maxLen; omega)) (hL.stays hW)
  have he := fun W => sRepl_any r W
  have hB0 := SD.start w s (some ⟨b, off, none⟩) lc sa sc
  have HB0 := hide hB0
  have HL := hide hL
  obtain ⟨p0, p1⟩ := hB0.sb.cells
  have d1 : decide (400 < l.length) = false := by simpa using h1
  rw [f0] at hr
  rw [f1] at ho
  rw [f2] at hi
  rw [f3] at he
  have hmn := fun W (hW : Below w.heap.size w W) => sMany_any s (some ⟨b, off, none⟩) sa lc sc r W hz.seen (hB.stays hW)
  rw [hn] at hmn
  have hsr150 := ((srv_iff s).1 f0).ops.1
  have how := fun W (hW : Below w.heap.size w W) => sOwn_any s.ops (some ⟨b, off, none⟩) lc r W hsr150 (hA.stays hW)
  rw [hown] at how
  have dn : decide (n < fr) = false := by simpa using hnf
  obtain ⟨k9, hk9⟩ : ∃ k : Nat, min (l.length : Int) (n - fr) = (k : Int) := ⟨(min (l.length : Int) (n - fr)).toNat, by omega⟩
  have hkl : k9 ≤ l.length := by omega
  have hwr : wrap64 (n - fr) = n - fr := by unfold wrap64; omega
  obtain ⟨o2, ho2⟩ : ∃ o2, o2 = fromOff ol cl k9 := ⟨_, rfl⟩
  have hmo2 : more = l.drop k9 := by rw [hmo]; unfold freshOps; rw [show min (n - fr) (l.length : Int) = (k9 : Int) by omega]; rfl
  have hml : l.length - k9 = more.length := by rw [hmo2, List.length_drop]
  have hsl := fun W => slice_from W bl ol l.length cl k9 (k9 : Int) rfl hkl
  rw [← ho2, hml] at hsl
  have hat9 : ∀ W, Below w.heap.size w W → OpsAt W (some ⟨bl, o2, none⟩) more := fun W hW => by rw [ho2, hmo2]; exact (hL.stays hW).from k9 hcl
  have HAt9 := hide hat9
  have HOw := hide how
  have HMn := hide hmn
  have HR := hide hr
  have HO := hide ho
  have HI := hide hi
  have HE := hide he
  have hownl : own.length ≤ 150 := by rw [← hown]; have := own_len s.ops r; omega
  unfold SrvV.agg at *
  clear hr ho hi he hB0 hA hB hz hL hLz hmn hn hnf how hown hmo hmo2 ho2 hat9 hsr150
  have d4 : decide (0 < more.length) = false := by rw [hc]; rfl
  clear hc

  go_enter Try.func7, Try.ntmps7
  go_wp2_with (first | (go_at_call 25; (refine (HR.out _ HB0.out.sb.below).mono ?_); rintro e w1 ⟨rfl, hb⟩; have hB1 := HB0.out.step hb; have HB1 := hide hB1; clear p0 p1 hb; obtain ⟨p0, p1⟩ := hB1.sb.cells; clear hB1) | (go_at_call 26; (refine (HO.out _ HB1.out.sb.below).mono ?_); rintro e w2 ⟨rfl, hb⟩; have hB1 := HB1.out.step hb; have HB2 := hide hB1; clear p0 p1 hb; obtain ⟨p0, p1⟩ := hB1.sb.cells; clear hB1) | (go_at_call 27; (refine (HI.out _ HB2.out.sb.below).mono ?_); rintro e w3 ⟨rfl, hb⟩; have hB1 := HB2.out.step hb; have HB3 := hide hB1; clear p0 p1 hb; obtain ⟨p0, p1⟩ := hB1.sb.cells; clear hB1) | (go_at_call 28; (refine (HE.out _).mono ?_); rintro e w4 ⟨rfl, rfl⟩) | fail)
  clear p0 p1
  go_loopw [9, 10] (fun a i wr => ∃ k : Nat, k ≤ l.length ∧ i = .int .i64 k ∧ a = .bool (allB (l.take k) r) ∧ SD w wr s (some ⟨b, off, none⟩) lc sa sc) (fun _ i _ => l.length - (intOf i).toNat)
  case atStart => exact ⟨0, by omega, rfl, by rfl, HB3.out⟩
  case round =>
    obtain ⟨k, hk, rfl, rfl, hSD⟩ := hrel
    have HSD := hide hSD
    obtain ⟨p0, p1⟩ := hSD.sb.cells
    obtain ⟨r0, r1, r2, r3, r4, fr_⟩ := five_ hSD.res
    by_cases h : k < l.length
    · have dk : decide (k < l.length) = true := by simpa using h
      obtain ⟨b', off', eb, hlt, hs0⟩ := HL.out k h
      cases eb
      obtain ⟨c0, c1, c2, c3, c4, c5, c6⟩ := hs0.block (w' := wr) (hSD.sb.below.block bl hlt)
      have hi0 : (0 : Int) ≤ (k : Int) := by omega
      have hi1 : (k : Int) < (l.length : Int) := by omega
      have hat := hide (allB_take h r)
      clear hSD hs0
      cases ha : allB (l.take k) r
      · have HAl := hide ha
        go_wp2
        go_roundw
        case rel => exact ⟨k + 1, by omega, by go_num, by rw [hat.out, HAl.out]; rfl, HSD.out⟩
        case measure => simp [intOf]; omega
      · have HAl := hide ha
        cases hq : (l[k].repl == r)
        · have HQ := hide hq
          go_wp2
          go_roundw
          case rel => exact ⟨k + 1, by omega, by go_num, by rw [hat.out, HAl.out, HQ.out]; rfl, HSD.out⟩
          case measure => simp [intOf]; omega
        · have HQ := hide hq
          go_wp2
          go_roundw
          case rel => exact ⟨k + 1, by omega, by go_num, by rw [hat.out, HAl.out, HQ.out]; rfl, HSD.out⟩
          case measure => simp [intOf]; omega
    · obtain rfl : k = l.length := by omega
      have dk : decide (l.length < l.length) = false := by simp
      have dt : allB (l.take l.length) r = true := by rw [List.take_length]; exact f5
      clear hSD
      go_wp2_with (first | (go_at_call 29; (refine (HMn.out _ HSD.out.sb.below).mono ?_); rintro e wm ⟨rfl, hbm⟩; have hBm := HSD.out.step hbm; have HBm := hide hBm; clear p0 p1 r0 r1 r2 r3 r4 fr_ hbm; obtain ⟨p0, p1⟩ := hBm.sb.cells; obtain ⟨r0, r1, r2, r3, r4, fr_⟩ := five_ hBm.res; clear hBm) | (go_at_call 30; (refine (sMin2_any _ _ _).mono ?_); rintro e wn ⟨rfl, rfl⟩) | (go_at_call 31; (refine (HOw.out _ HBm.out.sb.below).mono ?_); rintro e wo ⟨vo, rfl, hoo, hbo⟩; obtain ⟨g2, c2, rfl, hg2, hlt2, hcc2, hcm2, hat2⟩ := hoo.at; have hBo := HBm.out.step hbo; have HBo := hide hBo; have HOo := hide (And.intro hg2 hat2); clear p0 p1 r0 r1 r2 r3 r4 fr_ hoo hbo hg2 hat2 hcc2 hcm2; obtain ⟨p0, p1⟩ := hBo.sb.cells; obtain ⟨r0, r1, r2, r3, r4, fr_⟩ := five_ hBo.res; clear hBo) | fail)
      have hS1 : SLt w wo s (some ⟨b, off, none⟩) lc sa sc g2 own bl o2 more := ⟨HBo.out, HOo.out.2, HAt9.out _ HBo.out.sb.below⟩
      have HSd := hide (hS1.step (Below.refl _ _).drew)
      haveI : Nonempty (ClsW fun W => SLt w W s (some ⟨b, off, none⟩) lc sa sc g2 own bl o2 more) := ⟨⟨_, hS1⟩⟩
      clear hS1 p0 p1 r0 r1 r2 r3 r4 fr_
      refine region_class (ι := (ClsW fun W => SLt w W s (some ⟨b, off, none⟩) lc sa sc g2 own bl o2 more)) ClsW.wd (by kernel_rfl) (by kernel_rfl) ⟨_, HSd.out⟩ rfl ?_
      repeat (go_big_quiet_step (fail))
      refine wpQuiet_nil ?_
      rintro _ ⟨⟨w5, hV5⟩, rfl⟩
      have HV := hide hV5
      clear hV5
      have hwl := HWL.out
      have hwl2 := HWL2.out
      obtain ⟨p0, p1⟩ := HV.out.sd.sb.cells
      obtain ⟨r0, r1, r2, r3, r4, fr_⟩ := five_ HV.out.sd.res
      go_wp2
      refine bodyPost_ret (v := .agg #[.slice none 0 0, .slice none 0 0, .slice none 0 0, .int .i64 0, .int .i64 9]) (by simp [results, Try.results7, go_sem, r0, r1, r2, r3, r4]) rfl (SvT.ill (below5 HV.out.sd.sb.below (by omega) _ _ _ _ _))
end Go.Proofs.Ytdjjpaleemnikaa.OpR
namespace Go.Proofs.Ytdjjpaleemnikaa.OpR
open Go.ChangeShapes Go.WideShapes Go.ChangeAt Go.RowKit
set_option linter.unusedVariables false

set_option maxRecDepth 100000 in
set_option maxHeartbeats 4000000 in
theorem sUp_full_b (s : SrvV) (b off lc : Nat) (sa : Option Addr) (sc : Nat) (r fr : Int) (l : List OpV) (bl ol cl : Nat) (w : World) (hz : SSz 1048576 s) (hlc : s.ops.length ≤ lc) (hA : OpsAt w (some ⟨b, off, none⟩) s.ops) (hB : SeensAt w sa s.seen) (hll : l.length ≤ 1048576) (hcl : l.length ≤ cl) (hL : OpsAt w (some ⟨bl, ol, none⟩) l) (hLz : Sized l) (h1 : ¬ 400 < l.length) (f0 : srvRight s = true) (f1 : opsRight l = true) (f2 : rises l = true) (f3 : isIn r 1 50 = true) (f4 : decide (0 ≤ fr) = true) (f5 : allB l r = true) (n : Int) (hn : seenMany s.seen r = n) (hnf : ¬ n < fr) (hn0 : 0 ≤ n ∧ n ≤ 150) (own more : List OpV) (hown : ownB s.ops r = own) (hmo : more = freshOps n fr l) (hm0 : 0 < more.length) (hc : own = []) (hf0 : 0 ≤ fr) (hll4 : l.length ≤ 400) (hfu : 150 < s.ops.length + more.length) : Calls Try.prog 7 #[s.agg (some ⟨b, off, none⟩) lc sa sc, .int .i64 r, .int .i64 fr, .slice (some ⟨bl, ol, none⟩) l.length cl] w fun e w' => SvT w w' e (SOutV.ill 0 9) := by
  have hopl : s.ops.length ≤ 150 := ((srv_iff s).1 f0).ops.1
  have hmol : more.length ≤ 400 := by rw [hmo]; unfold freshOps; rw [List.length_drop]; omega
  have HWL := hide (show wrap64 ((s.ops.length : Int) + (more.length : Int)) = (s.ops.length : Int) + (more.length : Int) by unfold wrap64; omega)
  have HWL2 := hide (show IntKind.i64.wrap ((s.ops.length : Int) + (more.length : Int)) = (s.ops.length : Int) + (more.length : Int) by rw [IntKind.wrap_i64]; omega)
  have d7 : decide (150 < s.ops.length + more.length) = true := by simpa using hfu
  have d8 : decide ((150 : Int) < (s.ops.length : Int) + (more.length : Int)) = true := by simp; omega
  have hr := fun W (hW : Below w.heap.size w W) => sSrv_any s (some ⟨b, off, none⟩) sa lc sc W (Nat.le_trans hz.ops (by unfold maxLen; omega)) (fun o ho => ⟨Nat.le_trans (hz.osz o ho).1 (by unfold maxLen; omega), Nat.le_trans (hz.osz o ho).2 (by unfold maxLen; omega)⟩) hz.seen (hA.stays hW) (hB.stays hW)
  have ho := fun W (hW : Below w.heap.size w W) => sOps_any l (some ⟨bl, ol, none⟩) cl W (Nat.le_trans hll (by unfold maxLen; omega)) (hL.stays hW) hLz
  have hi := fun W (hW : Below w.heap.size w W) => rises_any l (some ⟨bl, ol, none⟩) cl W (Nat.le_trans hll (by unfold maxLen; omega)) (hL.stays hW)
  have he := fun W => sRepl_any r W
  have hB0 := SD.start w s (some ⟨b, off, none⟩) lc sa sc
  have HB0 := hide hB0
  have HL := hide hL
  obtain ⟨p0, p1⟩ := hB0.sb.cells
  have d1 : decide (400 < l.length) = false := by simpa using h1
  rw [f0] at hr
  rw [f1] at ho
  rw [f2] at hi
  rw [f3] at he
  have hmn := fun W (hW : Below w.heap.size w W) => sMany_any s (some ⟨b, off, none⟩) sa lc sc r W hz.seen (hB.stays hW)
  rw [hn] at hmn
  have hsr150 := ((srv_iff s).1 f0).ops.1
  have how := fun W (hW : Below w.heap.size w W) => sOwn_any s.ops (some ⟨b, off, none⟩) lc r W hsr150 (hA.stays hW)
  rw [hown] at how
  have dn : decide (n < fr) = false := by simpa using hnf
  obtain ⟨k9, hk9⟩ : ∃ k : Nat, min (l.length : Int) (n - fr) = (k : Int) := ⟨(min (l.length : Int) (n - fr)).toNat, by omega⟩
  have hkl : k9 ≤ l.length := by omega
  have hwr : wrap64 (n - fr) = n - fr := by unfold wrap64; omega
  obtain ⟨o2, ho2⟩ : ∃ o2, o2 = fromOff ol cl k9 := ⟨_, rfl⟩
  have hmo2 : more = l.drop k9 := by rw [hmo]; unfold freshOps; rw [show min (n - fr) (l.length : Int) = (k9 : Int) by omega]; rfl
  have hml : l.length - k9 = more.length := by rw [hmo2, List.length_drop]
  have hsl := fun W => slice_from W bl ol l.length cl k9 (k9 : Int) rfl hkl
  rw [← ho2, hml] at hsl
  have hat9 : ∀ W, Below w.heap.size w W → OpsAt W (some ⟨bl, o2, none⟩) more := fun W hW => by rw [ho2, hmo2]; exact (hL.stays hW).from k9 hcl
  have HAt9 := hide hat9
  have HOw := hide how
  have HMn := hide hmn
  have HR := hide hr
  have HO := hide ho
  have HI := hide hi
  have HE := hide he
  have hownl : own.length ≤ 150 := by rw [← hown]; have := own_len s.ops r; omega
  unfold SrvV.agg at *
  clear hr ho hi he hB0 hA hB hz hL hLz hmn hn hnf how hown hmo hmo2 ho2 hat9 hsr150
  have d4 : decide (0 < more.length) = true := by simpa using hm0
  have d6 : decide (0 < own.length) = false := by rw [hc]; rfl
  clear hc

  go_enter Try.func7, Try.ntmps7
  go_wp2_with (first | (go_at_call 25; (refine (HR.out _ HB0.out.sb.below).mono ?_); rintro e w1 ⟨rfl, hb⟩; have hB1 := HB0.out.step hb; have HB1 := hide hB1; clear p0 p1 hb; obtain ⟨p0, p1⟩ := hB1.sb.cells; clear hB1) | (go_at_call 26; (refine (HO.out _ HB1.out.sb.below).mono ?_); rintro e w2 ⟨rfl, hb⟩; have hB1 := HB1.out.step hb; have HB2 := hide hB1; clear p0 p1 hb; obtain ⟨p0, p1⟩ := hB1.sb.cells; clear hB1) | (go_at_call 27; (refine (HI.out _ HB2.out.sb.below).mono ?_); rintro e w3 ⟨rfl, hb⟩; have hB1 := HB2.out.step hb; have HB3 := hide hB1; clear p0 p1 hb; obtain ⟨p0, p1⟩ := hB1.sb.cells; clear hB1) | (go_at_call 28; (refine (HE.out _).mono ?_); rintro e w4 ⟨rfl, rfl⟩) | fail)
  clear p0 p1
  go_loopw [9, 10] (fun a i wr => ∃ k : Nat, k ≤ l.length ∧ i = .int .i64 k ∧ a = .bool (allB (l.take k) r) ∧ SD w wr s (some ⟨b, off, none⟩) lc sa sc) (fun _ i _ => l.length - (intOf i).toNat)
  case atStart => exact ⟨0, by omega, rfl, by rfl, HB3.out⟩
  case round =>
    obtain ⟨k, hk, rfl, rfl, hSD⟩ := hrel
    have HSD := hide hSD
    obtain ⟨p0, p1⟩ := hSD.sb.cells
    obtain ⟨r0, r1, r2, r3, r4, fr_⟩ := five_ hSD.res
    by_cases h : k < l.length
    · have dk : decide (k < l.length) = true := by simpa using h
      obtain ⟨b', off', eb, hlt, hs0⟩ := HL.out k h
      cases eb
      obtain ⟨c0, c1, c2, c3, c4, c5, c6⟩ := hs0.block (w' := wr) (hSD.sb.below.block bl hlt)
      have hi0 : (0 : Int) ≤ (k : Int) := by omega
      have hi1 : (k : Int) < (l.length : Int) := by omega
      have hat := hide (allB_take h r)
      clear hSD hs0
      cases ha : allB (l.take k) r
      · have HAl := hide ha
        go_wp2
        go_roundw
        case rel => exact ⟨k + 1, by omega, by go_num, by rw [hat.out, HAl.out]; rfl, HSD.out⟩
        case measure => simp [intOf]; omega
      · have HAl := hide ha
        cases hq : (l[k].repl == r)
        · have HQ := hide hq
          go_wp2
          go_roundw
          case rel => exact ⟨k + 1, by omega, by go_num, by rw [hat.out, HAl.out, HQ.out]; rfl, HSD.out⟩
          case measure => simp [intOf]; omega
        · have HQ := hide hq
          go_wp2
          go_roundw
          case rel => exact ⟨k + 1, by omega, by go_num, by rw [hat.out, HAl.out, HQ.out]; rfl, HSD.out⟩
          case measure => simp [intOf]; omega
    · obtain rfl : k = l.length := by omega
      have dk : decide (l.length < l.length) = false := by simp
      have dt : allB (l.take l.length) r = true := by rw [List.take_length]; exact f5
      clear hSD
      go_wp2_with (first | (go_at_call 29; (refine (HMn.out _ HSD.out.sb.below).mono ?_); rintro e wm ⟨rfl, hbm⟩; have hBm := HSD.out.step hbm; have HBm := hide hBm; clear p0 p1 r0 r1 r2 r3 r4 fr_ hbm; obtain ⟨p0, p1⟩ := hBm.sb.cells; obtain ⟨r0, r1, r2, r3, r4, fr_⟩ := five_ hBm.res; clear hBm) | (go_at_call 30; (refine (sMin2_any _ _ _).mono ?_); rintro e wn ⟨rfl, rfl⟩) | (go_at_call 31; (refine (HOw.out _ HBm.out.sb.below).mono ?_); rintro e wo ⟨vo, rfl, hoo, hbo⟩; obtain ⟨g2, c2, rfl, hg2, hlt2, hcc2, hcm2, hat2⟩ := hoo.at; have hBo := HBm.out.step hbo; have HBo := hide hBo; have HOo := hide (And.intro hg2 hat2); clear p0 p1 r0 r1 r2 r3 r4 fr_ hoo hbo hg2 hat2 hcc2 hcm2; obtain ⟨p0, p1⟩ := hBo.sb.cells; obtain ⟨r0, r1, r2, r3, r4, fr_⟩ := five_ hBo.res; clear hBo) | fail)
      have hS1 : SLt w wo s (some ⟨b, off, none⟩) lc sa sc g2 own bl o2 more := ⟨HBo.out, HOo.out.2, HAt9.out _ HBo.out.sb.below⟩
      have HSd := hide (hS1.step (Below.refl _ _).drew)
      haveI : Nonempty (ClsW fun W => SLt w W s (some ⟨b, off, none⟩) lc sa sc g2 own bl o2 more) := ⟨⟨_, hS1⟩⟩
      clear hS1 p0 p1 r0 r1 r2 r3 r4 fr_
      refine region_class (ι := (ClsW fun W => SLt w W s (some ⟨b, off, none⟩) lc sa sc g2 own bl o2 more)) ClsW.wd (by kernel_rfl) (by kernel_rfl) ⟨_, HSd.out⟩ rfl ?_
      repeat (go_big_quiet_step (fail))
      refine wpQuiet_nil ?_
      rintro _ ⟨⟨w5, hV5⟩, rfl⟩
      have HV := hide hV5
      clear hV5
      have hwl := HWL.out
      have hwl2 := HWL2.out
      obtain ⟨p0, p1⟩ := HV.out.sd.sb.cells
      obtain ⟨r0, r1, r2, r3, r4, fr_⟩ := five_ HV.out.sd.res
      go_wp2
      refine bodyPost_ret (v := .agg #[.slice none 0 0, .slice none 0 0, .slice none 0 0, .int .i64 0, .int .i64 9]) (by simp [results, Try.results7, go_sem, r0, r1, r2, r3, r4]) rfl (SvT.ill (below5 HV.out.sd.sb.below (by omega) _ _ _ _ _))
end Go.Proofs.Ytdjjpaleemnikaa.OpR
namespace Go.Proofs.Ytdjjpaleemnikaa.OpR
open Go.ChangeShapes Go.WideShapes Go.ChangeAt Go.RowKit
set_option linter.unusedVariables false

set_option maxRecDepth 100000 in
set_option maxHeartbeats 4000000 in
theorem sUp_full_c (s : SrvV) (b off lc : Nat) (sa : Option Addr) (sc : Nat) (r fr : Int) (l : List OpV) (bl ol cl : Nat) (w : World) (hz : SSz 1048576 s) (hlc : s.ops.length ≤ lc) (hA : OpsAt w (some ⟨b, off, none⟩) s.ops) (hB : SeensAt w sa s.seen) (hll : l.length ≤ 1048576) (hcl : l.length ≤ cl) (hL : OpsAt w (some ⟨bl, ol, none⟩) l) (hLz : Sized l) (h1 : ¬ 400 < l.length) (f0 : srvRight s = true) (f1 : opsRight l = true) (f2 : rises l = true) (f3 : isIn r 1 50 = true) (f4 : decide (0 ≤ fr) = true) (f5 : allB l r = true) (n : Int) (hn : seenMany s.seen r = n) (hnf : ¬ n < fr) (hn0 : 0 ≤ n ∧ n ≤ 150) (own more : List OpV) (hown : ownB s.ops r = own) (hmo : more = freshOps n fr l) (hm0 : 0 < more.length) (j : Nat) (hj : j < own.length) (hjl : own.length = j + 1) (o : OpV) (hoq : more[0] = o) (hla : ahead own[j] o = true) (hf0 : 0 ≤ fr) (hll4 : l.length ≤ 400) (hfu : 150 < s.ops.length + more.length) : Calls Try.prog 7 #[s.agg (some ⟨b, off, none⟩) lc sa sc, .int .i64 r, .int .i64 fr, .slice (some ⟨bl, ol, none⟩) l.length cl] w fun e w' => SvT w w' e (SOutV.ill 0 9) := by
  have hopl : s.ops.length ≤ 150 := ((srv_iff s).1 f0).ops.1
  have hmol : more.length ≤ 400 := by rw [hmo]; unfold freshOps; rw [List.length_drop]; omega
  have HWL := hide (show wrap64 ((s.ops.length : Int) + (more.length : Int)) = (s.ops.length : Int) + (more.length : Int) by unfold wrap64; omega)
  have HWL2 := hide (show IntKind.i64.wrap ((s.ops.length : Int) + (more.length : Int)) = (s.ops.length : Int) + (more.length : Int) by rw [IntKind.wrap_i64]; omega)
  have d7 : decide (150 < s.ops.length + more.length) = true := by simpa using hfu
  have d8 : decide ((150 : Int) < (s.ops.length : Int) + (more.length : Int)) = true := by simp; omega
  have hr := fun W (hW : Below w.heap.size w W) => sSrv_any s (some ⟨b, off, none⟩) sa lc sc W (Nat.le_trans hz.ops (by unfold maxLen; omega)) (fun o ho => ⟨Nat.le_trans (hz.osz o ho).1 (by unfold maxLen; omega), Nat.le_trans (hz.osz o ho).2 (by unfold maxLen; omega)⟩) hz.seen (hA.stays hW) (hB.stays hW)
  have ho := fun W (hW : Below w.heap.size w W) => sOps_any l (some ⟨bl, ol, none⟩) cl W (Nat.le_trans hll (by unfold maxLen; omega)) (hL.stays hW) hLz
  have hi := fun W (hW : Below w.heap.size w W) => rises_any l (some ⟨bl, ol, none⟩) cl W (Nat.le_trans hll (by unfold maxLen; omega)) (hL.stays hW)
  have he := fun W => sRepl_any r W
  have hB0 := SD.start w s (some ⟨b, off, none⟩) lc sa sc
  have HB0 := hide hB0
  have HL := hide hL
  obtain ⟨p0, p1⟩ := hB0.sb.cells
  have d1 : decide (400 < l.length) = false := by simpa using h1
  rw [f0] at hr
  rw [f1] at ho
  rw [f2] at hi
  rw [f3] at he
  have hmn := fun W (hW : Below w.heap.size w W) => sMany_any s (some ⟨b, off, none⟩) sa lc sc r W hz.seen (hB.stays hW)
  rw [hn] at hmn
  have hsr150 := ((srv_iff s).1 f0).ops.1
  have how := fun W (hW : Below w.heap.size w W) => sOwn_any s.ops (some ⟨b, off, none⟩) lc r W hsr150 (hA.stays hW)
  rw [hown] at how
  have dn : decide (n < fr) = false := by simpa using hnf
  obtain ⟨k9, hk9⟩ : ∃ k : Nat, min (l.length : Int) (n - fr) = (k : Int) := ⟨(min (l.length : Int) (n - fr)).toNat, by omega⟩
  have hkl : k9 ≤ l.length := by omega
  have hwr : wrap64 (n - fr) = n - fr := by unfold wrap64; omega
  obtain ⟨o2, ho2⟩ : ∃ o2, o2 = fromOff ol cl k9 := ⟨_, rfl⟩
  have hmo2 : more = l.drop k9 := by rw [hmo]; unfold freshOps; rw [show min (n - fr) (l.length : Int) = (k9 : Int) by omega]; rfl
  have hml : l.length - k9 = more.length := by rw [hmo2, List.length_drop]
  have hsl := fun W => slice_from W bl ol l.length cl k9 (k9 : Int) rfl hkl
  rw [← ho2, hml] at hsl
  have hat9 : ∀ W, Below w.heap.size w W → OpsAt W (some ⟨bl, o2, none⟩) more := fun W hW => by rw [ho2, hmo2]; exact (hL.stays hW).from k9 hcl
  have HAt9 := hide hat9
  have HOw := hide how
  have HMn := hide hmn
  have HR := hide hr
  have HO := hide ho
  have HI := hide hi
  have HE := hide he
  have hownl : own.length ≤ 150 := by rw [← hown]; have := own_len s.ops r; omega
  unfold SrvV.agg at *
  clear hr ho hi he hB0 hA hB hz hL hLz hmn hn hnf how hown hmo hmo2 ho2 hat9 hsr150
  have HOq := hide hoq
  clear hoq
  have hah := fun W => ahead_any own[j] o W
  unfold OpV.agg at hah
  rw [hla] at hah
  have HAh := hide hah
  have d4 : decide (0 < more.length) = true := by simpa using hm0
  have d5 : (0 : Int) < (more.length : Int) := by omega
  have d6 : decide (0 < own.length) = true := by simp; omega
  have hwj : wrap64 ((own.length : Int) - 1) = (j : Int) := by unfold wrap64; omega
  have hwj2 : IntKind.i64.wrap ((own.length : Int) - 1) = (j : Int) := by rw [IntKind.wrap_i64]; omega
  have hj0 : (0 : Int) ≤ (j : Int) := by omega
  have hj1 : (j : Int) < (own.length : Int) := by omega
  have HJl := hide hjl
  clear hah hla hjl

  go_enter Try.func7, Try.ntmps7
  go_wp2_with (first | (go_at_call 25; (refine (HR.out _ HB0.out.sb.below).mono ?_); rintro e w1 ⟨rfl, hb⟩; have hB1 := HB0.out.step hb; have HB1 := hide hB1; clear p0 p1 hb; obtain ⟨p0, p1⟩ := hB1.sb.cells; clear hB1) | (go_at_call 26; (refine (HO.out _ HB1.out.sb.below).mono ?_); rintro e w2 ⟨rfl, hb⟩; have hB1 := HB1.out.step hb; have HB2 := hide hB1; clear p0 p1 hb; obtain ⟨p0, p1⟩ := hB1.sb.cells; clear hB1) | (go_at_call 27; (refine (HI.out _ HB2.out.sb.below).mono ?_); rintro e w3 ⟨rfl, hb⟩; have hB1 := HB2.out.step hb; have HB3 := hide hB1; clear p0 p1 hb; obtain ⟨p0, p1⟩ := hB1.sb.cells; clear hB1) | (go_at_call 28; (refine (HE.out _).mono ?_); rintro e w4 ⟨rfl, rfl⟩) | fail)
  clear p0 p1
  go_loopw [9, 10] (fun a i wr => ∃ k : Nat, k ≤ l.length ∧ i = .int .i64 k ∧ a = .bool (allB (l.take k) r) ∧ SD w wr s (some ⟨b, off, none⟩) lc sa sc) (fun _ i _ => l.length - (intOf i).toNat)
  case atStart => exact ⟨0, by omega, rfl, by rfl, HB3.out⟩
  case round =>
    obtain ⟨k, hk, rfl, rfl, hSD⟩ := hrel
    have HSD := hide hSD
    obtain ⟨p0, p1⟩ := hSD.sb.cells
    obtain ⟨r0, r1, r2, r3, r4, fr_⟩ := five_ hSD.res
    by_cases h : k < l.length
    · have dk : decide (k < l.length) = true := by simpa using h
      obtain ⟨b', off', eb, hlt, hs0⟩ := HL.out k h
      cases eb
      obtain ⟨c0, c1, c2, c3, c4, c5, c6⟩ := hs0.block (w' := wr) (hSD.sb.below.block bl hlt)
      have hi0 : (0 : Int) ≤ (k : Int) := by omega
      have hi1 : (k : Int) < (l.length : Int) := by omega
      have hat := hide (allB_take h r)
      clear hSD hs0
      cases ha : allB (l.take k) r
      · have HAl := hide ha
        go_wp2
        go_roundw
        case rel => exact ⟨k + 1, by omega, by go_num, by rw [hat.out, HAl.out]; rfl, HSD.out⟩
        case measure => simp [intOf]; omega
      · have HAl := hide ha
        cases hq : (l[k].repl == r)
        · have HQ := hide hq
          go_wp2
          go_roundw
          case rel => exact ⟨k + 1, by omega, by go_num, by rw [hat.out, HAl.out, HQ.out]; rfl, HSD.out⟩
          case measure => simp [intOf]; omega
        · have HQ := hide hq
          go_wp2
          go_roundw
          case rel => exact ⟨k + 1, by omega, by go_num, by rw [hat.out, HAl.out, HQ.out]; rfl, HSD.out⟩
          case measure => simp [intOf]; omega
    · obtain rfl : k = l.length := by omega
      have dk : decide (l.length < l.length) = false := by simp
      have dt : allB (l.take l.length) r = true := by rw [List.take_length]; exact f5
      clear hSD
      go_wp2_with (first | (go_at_call 29; (refine (HMn.out _ HSD.out.sb.below).mono ?_); rintro e wm ⟨rfl, hbm⟩; have hBm := HSD.out.step hbm; have HBm := hide hBm; clear p0 p1 r0 r1 r2 r3 r4 fr_ hbm; obtain ⟨p0, p1⟩ := hBm.sb.cells; obtain ⟨r0, r1, r2, r3, r4, fr_⟩ := five_ hBm.res; clear hBm) | (go_at_call 30; (refine (sMin2_any _ _ _).mono ?_); rintro e wn ⟨rfl, rfl⟩) | (go_at_call 31; (refine (HOw.out _ HBm.out.sb.below).mono ?_); rintro e wo ⟨vo, rfl, hoo, hbo⟩; obtain ⟨g2, c2, rfl, hg2, hlt2, hcc2, hcm2, hat2⟩ := hoo.at; have hBo := HBm.out.step hbo; have HBo := hide hBo; have HOo := hide (And.intro hg2 hat2); clear p0 p1 r0 r1 r2 r3 r4 fr_ hoo hbo hg2 hat2 hcc2 hcm2; obtain ⟨p0, p1⟩ := hBo.sb.cells; obtain ⟨r0, r1, r2, r3, r4, fr_⟩ := five_ hBo.res; clear hBo) | fail)
      have hS1 : SLt w wo s (some ⟨b, off, none⟩) lc sa sc g2 own bl o2 more := ⟨HBo.out, HOo.out.2, HAt9.out _ HBo.out.sb.below⟩
      have HSd := hide (hS1.step (Below.refl _ _).drew)
      haveI : Nonempty (ClsW fun W => SLt w W s (some ⟨b, off, none⟩) lc sa sc g2 own bl o2 more) := ⟨⟨_, hS1⟩⟩
      have X0 : ∀ q : (ClsW fun W => SLt w W s (some ⟨b, off, none⟩) lc sa sc g2 own bl o2 more), q.wd.cell? ⟨g2, j * 7, none⟩ = some (.int .i64 own[j].time) := fun q => (q.ok.own_ hj).1
      have X1 : ∀ q : (ClsW fun W => SLt w W s (some ⟨b, off, none⟩) lc sa sc g2 own bl o2 more), q.wd.cell? ⟨g2, j * 7 + 1, none⟩ = some (.int .i64 own[j].repl) := fun q => (q.ok.own_ hj).2.1
      have X2 : ∀ q : (ClsW fun W => SLt w W s (some ⟨b, off, none⟩) lc sa sc g2 own bl o2 more), q.wd.cell? ⟨g2, j * 7 + 2, none⟩ = some (.int .i64 own[j].kind) := fun q => (q.ok.own_ hj).2.2.1
      have X3 : ∀ q : (ClsW fun W => SLt w W s (some ⟨b, off, none⟩) lc sa sc g2 own bl o2 more), q.wd.cell? ⟨g2, j * 7 + 3, none⟩ = some (.int .i64 own[j].node) := fun q => (q.ok.own_ hj).2.2.2.1
      have X4 : ∀ q : (ClsW fun W => SLt w W s (some ⟨b, off, none⟩) lc sa sc g2 own bl o2 more), q.wd.cell? ⟨g2, j * 7 + 4, none⟩ = some (.int .i64 own[j].parent) := fun q => (q.ok.own_ hj).2.2.2.2.1
      have X5 : ∀ q : (ClsW fun W => SLt w W s (some ⟨b, off, none⟩) lc sa sc g2 own bl o2 more), q.wd.cell? ⟨g2, j * 7 + 5, none⟩ = some (.string own[j].name) := fun q => (q.ok.own_ hj).2.2.2.2.2.1
      have X6 : ∀ q : (ClsW fun W => SLt w W s (some ⟨b, off, none⟩) lc sa sc g2 own bl o2 more), q.wd.cell? ⟨g2, j * 7 + 6, none⟩ = some (.string own[j].value) := fun q => (q.ok.own_ hj).2.2.2.2.2.2
      have Y0 : ∀ q : (ClsW fun W => SLt w W s (some ⟨b, off, none⟩) lc sa sc g2 own bl o2 more), q.wd.cell? ⟨bl, o2, none⟩ = some (.int .i64 o.time) := fun q => (q.ok.op0 hm0 HOq.out).1
      have Y1 : ∀ q : (ClsW fun W => SLt w W s (some ⟨b, off, none⟩) lc sa sc g2 own bl o2 more), q.wd.cell? ⟨bl, o2 + 1, none⟩ = some (.int .i64 o.repl) := fun q => (q.ok.op0 hm0 HOq.out).2.1
      have Y2 : ∀ q : (ClsW fun W => SLt w W s (some ⟨b, off, none⟩) lc sa sc g2 own bl o2 more), q.wd.cell? ⟨bl, o2 + 2, none⟩ = some (.int .i64 o.kind) := fun q => (q.ok.op0 hm0 HOq.out).2.2.1
      have Y3 : ∀ q : (ClsW fun W => SLt w W s (some ⟨b, off, none⟩) lc sa sc g2 own bl o2 more), q.wd.cell? ⟨bl, o2 + 3, none⟩ = some (.int .i64 o.node) := fun q => (q.ok.op0 hm0 HOq.out).2.2.2.1
      have Y4 : ∀ q : (ClsW fun W => SLt w W s (some ⟨b, off, none⟩) lc sa sc g2 own bl o2 more), q.wd.cell? ⟨bl, o2 + 4, none⟩ = some (.int .i64 o.parent) := fun q => (q.ok.op0 hm0 HOq.out).2.2.2.2.1
      have Y5 : ∀ q : (ClsW fun W => SLt w W s (some ⟨b, off, none⟩) lc sa sc g2 own bl o2 more), q.wd.cell? ⟨bl, o2 + 5, none⟩ = some (.string o.name) := fun q => (q.ok.op0 hm0 HOq.out).2.2.2.2.2.1
      have Y6 : ∀ q : (ClsW fun W => SLt w W s (some ⟨b, off, none⟩) lc sa sc g2 own bl o2 more), q.wd.cell? ⟨bl, o2 + 6, none⟩ = some (.string o.value) := fun q => (q.ok.op0 hm0 HOq.out).2.2.2.2.2.2
      clear hS1 p0 p1 r0 r1 r2 r3 r4 fr_
      refine region_class (ι := (ClsW fun W => SLt w W s (some ⟨b, off, none⟩) lc sa sc g2 own bl o2 more)) ClsW.wd (by kernel_rfl) (by kernel_rfl) ⟨_, HSd.out⟩ rfl ?_
      repeat (go_big_quiet_step (first | (go_at_call 32; rename_i q; refine (HAh.out _).mono ?_; rintro e w4 ⟨rfl, hw4⟩; exact ⟨rfl, ⟨w4, q.ok.step hw4⟩, rfl⟩)))
      refine wpQuiet_nil ?_
      rintro _ ⟨⟨w5, hV5⟩, rfl⟩
      have HV := hide hV5
      clear X0 X1 X2 X3 X4 X5 X6 Y0 Y1 Y2 Y3 Y4 Y5 Y6 hV5
      have hwl := HWL.out
      have hwl2 := HWL2.out
      obtain ⟨p0, p1⟩ := HV.out.sd.sb.cells
      obtain ⟨r0, r1, r2, r3, r4, fr_⟩ := five_ HV.out.sd.res
      go_wp2
      refine bodyPost_ret (v := .agg #[.slice none 0 0, .slice none 0 0, .slice none 0 0, .int .i64 0, .int .i64 9]) (by simp [results, Try.results7, go_sem, r0, r1, r2, r3, r4]) rfl (SvT.ill (below5 HV.out.sd.sb.below (by omega) _ _ _ _ _))
end Go.Proofs.Ytdjjpaleemnikaa.OpR
