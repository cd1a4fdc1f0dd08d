/- Proves what impl.Download answers. -/
import Derived.Test.YtkfjommoogmehaaSrvD
namespace Go.Proofs.Ytkfjommoogmehaa.OpR
open Go.ChangeShapes Go.WideShapes Go.ChangeAt Go.RowKit
set_option linter.unusedVariables false

/-- What ownOps makes, told without the world's size. -/
theorem own_ex (l : List OpV) (ao : Option Addr) (cap : Nat) (w : World) (hl : l.length ≤ 1048576) (hA : OpsAt w ao l) (hS : ∀ o ∈ l, o.name.size ≤ 1048576 ∧ o.value.size ≤ 1048576) :
    Calls Try.prog 49 #[.slice ao l.length cap] w fun e w' => ∃ g, e = .returned (.slice (some ⟨g, 0, none⟩) l.length l.length) ∧ w.heap.size ≤ g ∧ OpsIn w' g 65 l ∧ Below w.heap.size w w' :=
  (own_any l ao cap w hl hA hS).mono fun e w' h => ⟨_, h.1, Nat.le_refl _, h.2.1, h.2.2⟩
theorem in_mark {w : World} {g : Nat} {l : List OpV} (h : OpsIn w g 65 l) : MarkOk w (some ⟨g, 0, none⟩) l.length := .inl ⟨g, _, rfl, Nat.le_refl _, opsArr l, h, opsArr_size l⟩
theorem in5 {w : World} {g k : Nat} {l : List OpV} (h : OpsIn w k 65 l) (hne : k ≠ g) (v0 v1 v2 v3 v4 : Value) : OpsIn (((((w.setCell ⟨g, 0, none⟩ v0).setCell ⟨g, 1, none⟩ v1).setCell ⟨g, 2, none⟩ v2).setCell ⟨g, 3, none⟩ v3).setCell ⟨g, 4, none⟩ v4) k 65 l := h.block (other5 rfl hne _ _ _ _ _)
set_option maxRecDepth 100000 in
set_option maxHeartbeats 1000000 in
theorem iDl_1 (s : SrvV) (b off lc : Nat) (sa : Option Addr) (sc : Nat) (fr most : Int) (w : World) (hz : SSz 1048576 s) (hlc : s.ops.length ≤ lc) (hA : OpsAt w (some ⟨b, off, none⟩) s.ops) (hB : SeensAt w sa s.seen) (hsr : srvRight s = false) :
    Calls Try.prog 22 #[s.agg (some ⟨b, off, none⟩) lc sa sc, .int .i64 fr, .int .i64 most] w fun e w' => IvT w w' e (SOutV.ill 0 1) := by
  have hr := fun W (hW : Below w.heap.size w W) => serving_any s (some ⟨b, off, none⟩) sa lc sc W (Nat.le_trans hz.ops (by unfold maxLen; omega)) hlc (fun o ho => ⟨Nat.le_trans (hz.osz o ho).1 (by unfold maxLen; omega), Nat.le_trans (hz.osz o ho).2 (by unfold maxLen; omega)⟩) hz.seen (hA.stays hW) (hB.stays hW)
  have hB0 := SD.start w s (some ⟨b, off, none⟩) lc sa sc
  have HB0 := hide hB0
  obtain ⟨p0, p1⟩ := hB0.sb.cells
  have HR := hide hr
  have HSr := hide hsr
  unfold SrvV.agg at *
  clear hr hB0 hA hB hz hsr
  go_enter Try.func22, Try.ntmps22
  go_wp2_with (first | (go_at_call 28; (refine (HR.out _ HB0.out.sb.below).mono ?_); intro e w1 h1; obtain ⟨a1, n1, c1, x1, he, hb1, hm1⟩ := h1; rw [HSr.out] at he; subst he; have hB1 := HB0.out.step hb1; have HB1 := hide hB1; clear p0 p1 hb1 hm1; obtain ⟨p0, p1⟩ := hB1.sb.cells; have pa : ∀ o, (w1.alloc o).cell? ⟨w.heap.size, 0, none⟩ = some (.slice (some ⟨b, off, none⟩) s.ops.length lc) := fun o => (World.cell?_alloc_lt _ _ _ (Nat.lt_trans (Nat.lt_succ_self _) hB1.lt)).trans p0; clear hB1) | (go_at_call 38; (refine (code_any _ (by omega) _).mono ?_); intro e w2 h2; obtain ⟨rfl, hw2⟩ := h2; have hB2 := HB1.out.step (((Below.refl _ w1).alloc (Nat.le_refl _) (.cells #[.slice a1 n1 c1, .map x1] 57))); rw [hw2] at hB2; clear hw2; have HB2 := hide hB2; obtain ⟨r0, r1, r2, r3, r4, fr_⟩ := five_ hB2.res; clear hB2 p0 p1 pa) | fail)
  all_goals (
    go_wp2_with (first | (go_at_call 28; (refine (HR.out _ HB0.out.sb.below).mono ?_); intro e w1 h1; obtain ⟨a1, n1, c1, x1, he, hb1, hm1⟩ := h1; rw [HSr.out] at he; subst he; have hB1 := HB0.out.step hb1; have HB1 := hide hB1; clear p0 p1 hb1 hm1; obtain ⟨p0, p1⟩ := hB1.sb.cells; have pa : ∀ o, (w1.alloc o).cell? ⟨w.heap.size, 0, none⟩ = some (.slice (some ⟨b, off, none⟩) s.ops.length lc) := fun o => (World.cell?_alloc_lt _ _ _ (Nat.lt_trans (Nat.lt_succ_self _) hB1.lt)).trans p0; clear hB1) | (go_at_call 38; (refine (code_any _ (by omega) _).mono ?_); intro e w2 h2; obtain ⟨rfl, hw2⟩ := h2; have hB2 := HB1.out.step (((Below.refl _ w1).alloc (Nat.le_refl _) (.cells #[.slice a1 n1 c1, .map x1] 57))); rw [hw2] at hB2; clear hw2; have HB2 := hide hB2; obtain ⟨r0, r1, r2, r3, r4, fr_⟩ := five_ hB2.res; clear hB2 p0 p1 pa) | fail)
    refine bodyPost_ret (v := .agg #[.slice none 0 0, .slice none 0 0, .slice none 0 0, .int .i64 0, .int .i64 1]) (by simp [results, Try.results22, go_sem, codeOf, r0, r1, r2, r3, r4]) rfl (IvT.ill (below5 HB2.out.sb.below (by omega) _ _ _ _ _)))
set_option maxRecDepth 100000 in
set_option maxHeartbeats 1000000 in
theorem iDl_2 (s : SrvV) (b off lc : Nat) (sa : Option Addr) (sc : Nat) (fr most : Int) (w : World) (hz : SSz 1048576 s) (hlc : s.ops.length ≤ lc) (hA : OpsAt w (some ⟨b, off, none⟩) s.ops) (hB : SeensAt w sa s.seen) (hsr : srvRight s = true) (d1 : decide (fr < 0) = true) :
    Calls Try.prog 22 #[s.agg (some ⟨b, off, none⟩) lc sa sc, .int .i64 fr, .int .i64 most] w fun e w' => IvT w w' e (SOutV.ill 0 1) := by
  have hr := fun W (hW : Below w.heap.size w W) => serving_any s (some ⟨b, off, none⟩) sa lc sc W (Nat.le_trans hz.ops (by unfold maxLen; omega)) hlc (fun o ho => ⟨Nat.le_trans (hz.osz o ho).1 (by unfold maxLen; omega), Nat.le_trans (hz.osz o ho).2 (by unfold maxLen; omega)⟩) hz.seen (hA.stays hW) (hB.stays hW)
  have hB0 := SD.start w s (some ⟨b, off, none⟩) lc sa sc
  have HB0 := hide hB0
  obtain ⟨p0, p1⟩ := hB0.sb.cells
  have HR := hide hr
  have HSr := hide hsr
  unfold SrvV.agg at *
  clear hr hB0 hA hB hz hsr
  go_enter Try.func22, Try.ntmps22
  go_wp2_with (first | (go_at_call 28; (refine (HR.out _ HB0.out.sb.below).mono ?_); intro e w1 h1; obtain ⟨a1, n1, c1, x1, he, hb1, hm1⟩ := h1; rw [HSr.out] at he; subst he; have hB1 := HB0.out.step hb1; have HB1 := hide hB1; clear p0 p1 hb1 hm1; obtain ⟨p0, p1⟩ := hB1.sb.cells; have pa : ∀ o, (w1.alloc o).cell? ⟨w.heap.size, 0, none⟩ = some (.slice (some ⟨b, off, none⟩) s.ops.length lc) := fun o => (World.cell?_alloc_lt _ _ _ (Nat.lt_trans (Nat.lt_succ_self _) hB1.lt)).trans p0; clear hB1) | (go_at_call 38; (refine (code_any _ (by omega) _).mono ?_); intro e w2 h2; obtain ⟨rfl, hw2⟩ := h2; have hB2 := HB1.out.step (((Below.refl _ w1).alloc (Nat.le_refl _) (.cells #[.slice a1 n1 c1, .map x1] 57))); rw [hw2] at hB2; clear hw2; have HB2 := hide hB2; obtain ⟨r0, r1, r2, r3, r4, fr_⟩ := five_ hB2.res; clear hB2 p0 p1 pa) | fail)
  all_goals (
    go_wp2_with (first | (go_at_call 28; (refine (HR.out _ HB0.out.sb.below).mono ?_); intro e w1 h1; obtain ⟨a1, n1, c1, x1, he, hb1, hm1⟩ := h1; rw [HSr.out] at he; subst he; have hB1 := HB0.out.step hb1; have HB1 := hide hB1; clear p0 p1 hb1 hm1; obtain ⟨p0, p1⟩ := hB1.sb.cells; have pa : ∀ o, (w1.alloc o).cell? ⟨w.heap.size, 0, none⟩ = some (.slice (some ⟨b, off, none⟩) s.ops.length lc) := fun o => (World.cell?_alloc_lt _ _ _ (Nat.lt_trans (Nat.lt_succ_self _) hB1.lt)).trans p0; clear hB1) | (go_at_call 38; (refine (code_any _ (by omega) _).mono ?_); intro e w2 h2; obtain ⟨rfl, hw2⟩ := h2; have hB2 := HB1.out.step (((Below.refl _ w1).alloc (Nat.le_refl _) (.cells #[.slice a1 n1 c1, .map x1] 57))); rw [hw2] at hB2; clear hw2; have HB2 := hide hB2; obtain ⟨r0, r1, r2, r3, r4, fr_⟩ := five_ hB2.res; clear hB2 p0 p1 pa) | fail)
    refine bodyPost_ret (v := .agg #[.slice none 0 0, .slice none 0 0, .slice none 0 0, .int .i64 0, .int .i64 1]) (by simp [results, Try.results22, go_sem, codeOf, r0, r1, r2, r3, r4]) rfl (IvT.ill (below5 HB2.out.sb.below (by omega) _ _ _ _ _)))
set_option maxRecDepth 100000 in
set_option maxHeartbeats 1000000 in
theorem iDl_3 (s : SrvV) (b off lc : Nat) (sa : Option Addr) (sc : Nat) (fr most : Int) (w : World) (hz : SSz 1048576 s) (hlc : s.ops.length ≤ lc) (hA : OpsAt w (some ⟨b, off, none⟩) s.ops) (hB : SeensAt w sa s.seen) (hsr : srvRight s = true) (d1 : decide (fr < 0) = false) (d2 : decide ((s.ops.length : Int) < fr) = true) :
    Calls Try.prog 22 #[s.agg (some ⟨b, off, none⟩) lc sa sc, .int .i64 fr, .int .i64 most] w fun e w' => IvT w w' e (SOutV.ill 0 1) := by
  have hr := fun W (hW : Below w.heap.size w W) => serving_any s (some ⟨b, off, none⟩) sa lc sc W (Nat.le_trans hz.ops (by unfold maxLen; omega)) hlc (fun o ho => ⟨Nat.le_trans (hz.osz o ho).1 (by unfold maxLen; omega), Nat.le_trans (hz.osz o ho).2 (by unfold maxLen; omega)⟩) hz.seen (hA.stays hW) (hB.stays hW)
  have hB0 := SD.start w s (some ⟨b, off, none⟩) lc sa sc
  have HB0 := hide hB0
  obtain ⟨p0, p1⟩ := hB0.sb.cells
  have HR := hide hr
  have HSr := hide hsr
  unfold SrvV.agg at *
  clear hr hB0 hA hB hz hsr
  go_enter Try.func22, Try.ntmps22
  go_wp2_with (first | (go_at_call 28; (refine (HR.out _ HB0.out.sb.below).mono ?_); intro e w1 h1; obtain ⟨a1, n1, c1, x1, he, hb1, hm1⟩ := h1; rw [HSr.out] at he; subst he; have hB1 := HB0.out.step hb1; have HB1 := hide hB1; clear p0 p1 hb1 hm1; obtain ⟨p0, p1⟩ := hB1.sb.cells; have pa : ∀ o, (w1.alloc o).cell? ⟨w.heap.size, 0, none⟩ = some (.slice (some ⟨b, off, none⟩) s.ops.length lc) := fun o => (World.cell?_alloc_lt _ _ _ (Nat.lt_trans (Nat.lt_succ_self _) hB1.lt)).trans p0; clear hB1) | (go_at_call 38; (refine (code_any _ (by omega) _).mono ?_); intro e w2 h2; obtain ⟨rfl, hw2⟩ := h2; have hB2 := HB1.out.step (((Below.refl _ w1).alloc (Nat.le_refl _) (.cells #[.slice a1 n1 c1, .map x1] 57))); rw [hw2] at hB2; clear hw2; have HB2 := hide hB2; obtain ⟨r0, r1, r2, r3, r4, fr_⟩ := five_ hB2.res; clear hB2 p0 p1 pa) | fail)
  all_goals (
    go_wp2_with (first | (go_at_call 28; (refine (HR.out _ HB0.out.sb.below).mono ?_); intro e w1 h1; obtain ⟨a1, n1, c1, x1, he, hb1, hm1⟩ := h1; rw [HSr.out] at he; subst he; have hB1 := HB0.out.step hb1; have HB1 := hide hB1; clear p0 p1 hb1 hm1; obtain ⟨p0, p1⟩ := hB1.sb.cells; have pa : ∀ o, (w1.alloc o).cell? ⟨w.heap.size, 0, none⟩ = some (.slice (some ⟨b, off, none⟩) s.ops.length lc) := fun o => (World.cell?_alloc_lt _ _ _ (Nat.lt_trans (Nat.lt_succ_self _) hB1.lt)).trans p0; clear hB1) | (go_at_call 38; (refine (code_any _ (by omega) _).mono ?_); intro e w2 h2; obtain ⟨rfl, hw2⟩ := h2; have hB2 := HB1.out.step (((Below.refl _ w1).alloc (Nat.le_refl _) (.cells #[.slice a1 n1 c1, .map x1] 57))); rw [hw2] at hB2; clear hw2; have HB2 := hide hB2; obtain ⟨r0, r1, r2, r3, r4, fr_⟩ := five_ hB2.res; clear hB2 p0 p1 pa) | fail)
    refine bodyPost_ret (v := .agg #[.slice none 0 0, .slice none 0 0, .slice none 0 0, .int .i64 0, .int .i64 1]) (by simp [results, Try.results22, go_sem, codeOf, r0, r1, r2, r3, r4]) rfl (IvT.ill (below5 HB2.out.sb.below (by omega) _ _ _ _ _)))
set_option maxRecDepth 100000 in
set_option maxHeartbeats 1000000 in
theorem iDl_4 (s : SrvV) (b off lc : Nat) (sa : Option Addr) (sc : Nat) (fr most : Int) (w : World) (hz : SSz 1048576 s) (hlc : s.ops.length ≤ lc) (hA : OpsAt w (some ⟨b, off, none⟩) s.ops) (hB : SeensAt w sa s.seen) (hsr : srvRight s = true) (d1 : decide (fr < 0) = false) (d2 : decide ((s.ops.length : Int) < fr) = false) (d3 : decide (most < 0) = true) :
    Calls Try.prog 22 #[s.agg (some ⟨b, off, none⟩) lc sa sc, .int .i64 fr, .int .i64 most] w fun e w' => IvT w w' e (SOutV.ill 0 1) := by
  have hr := fun W (hW : Below w.heap.size w W) => serving_any s (some ⟨b, off, none⟩) sa lc sc W (Nat.le_trans hz.ops (by unfold maxLen; omega)) hlc (fun o ho => ⟨Nat.le_trans (hz.osz o ho).1 (by unfold maxLen; omega), Nat.le_trans (hz.osz o ho).2 (by unfold maxLen; omega)⟩) hz.seen (hA.stays hW) (hB.stays hW)
  have hB0 := SD.start w s (some ⟨b, off, none⟩) lc sa sc
  have HB0 := hide hB0
  obtain ⟨p0, p1⟩ := hB0.sb.cells
  have HR := hide hr
  have HSr := hide hsr
  unfold SrvV.agg at *
  clear hr hB0 hA hB hz hsr
  go_enter Try.func22, Try.ntmps22
  go_wp2_with (first | (go_at_call 28; (refine (HR.out _ HB0.out.sb.below).mono ?_); intro e w1 h1; obtain ⟨a1, n1, c1, x1, he, hb1, hm1⟩ := h1; rw [HSr.out] at he; subst he; have hB1 := HB0.out.step hb1; have HB1 := hide hB1; clear p0 p1 hb1 hm1; obtain ⟨p0, p1⟩ := hB1.sb.cells; have pa : ∀ o, (w1.alloc o).cell? ⟨w.heap.size, 0, none⟩ = some (.slice (some ⟨b, off, none⟩) s.ops.length lc) := fun o => (World.cell?_alloc_lt _ _ _ (Nat.lt_trans (Nat.lt_succ_self _) hB1.lt)).trans p0; clear hB1) | (go_at_call 38; (refine (code_any _ (by omega) _).mono ?_); intro e w2 h2; obtain ⟨rfl, hw2⟩ := h2; have hB2 := HB1.out.step (((Below.refl _ w1).alloc (Nat.le_refl _) (.cells #[.slice a1 n1 c1, .map x1] 57))); rw [hw2] at hB2; clear hw2; have HB2 := hide hB2; obtain ⟨r0, r1, r2, r3, r4, fr_⟩ := five_ hB2.res; clear hB2 p0 p1 pa) | fail)
  all_goals (
    go_wp2_with (first | (go_at_call 28; (refine (HR.out _ HB0.out.sb.below).mono ?_); intro e w1 h1; obtain ⟨a1, n1, c1, x1, he, hb1, hm1⟩ := h1; rw [HSr.out] at he; subst he; have hB1 := HB0.out.step hb1; have HB1 := hide hB1; clear p0 p1 hb1 hm1; obtain ⟨p0, p1⟩ := hB1.sb.cells; have pa : ∀ o, (w1.alloc o).cell? ⟨w.heap.size, 0, none⟩ = some (.slice (some ⟨b, off, none⟩) s.ops.length lc) := fun o => (World.cell?_alloc_lt _ _ _ (Nat.lt_trans (Nat.lt_succ_self _) hB1.lt)).trans p0; clear hB1) | (go_at_call 38; (refine (code_any _ (by omega) _).mono ?_); intro e w2 h2; obtain ⟨rfl, hw2⟩ := h2; have hB2 := HB1.out.step (((Below.refl _ w1).alloc (Nat.le_refl _) (.cells #[.slice a1 n1 c1, .map x1] 57))); rw [hw2] at hB2; clear hw2; have HB2 := hide hB2; obtain ⟨r0, r1, r2, r3, r4, fr_⟩ := five_ hB2.res; clear hB2 p0 p1 pa) | fail)
    refine bodyPost_ret (v := .agg #[.slice none 0 0, .slice none 0 0, .slice none 0 0, .int .i64 0, .int .i64 1]) (by simp [results, Try.results22, go_sem, codeOf, r0, r1, r2, r3, r4]) rfl (IvT.ill (below5 HB2.out.sb.below (by omega) _ _ _ _ _)))
set_option maxRecDepth 100000 in
set_option maxHeartbeats 1000000 in
theorem iDl_5 (s : SrvV) (b off lc : Nat) (sa : Option Addr) (sc : Nat) (fr most : Int) (w : World) (hz : SSz 1048576 s) (hlc : s.ops.length ≤ lc) (hA : OpsAt w (some ⟨b, off, none⟩) s.ops) (hB : SeensAt w sa s.seen) (hsr : srvRight s = true) (d1 : decide (fr < 0) = false) (d2 : decide ((s.ops.length : Int) < fr) = false) (d3 : decide (most < 0) = false) (d4 : decide (50 < most) = true) :
    Calls Try.prog 22 #[s.agg (some ⟨b, off, none⟩) lc sa sc, .int .i64 fr, .int .i64 most] w fun e w' => IvT w w' e (SOutV.ill 0 1) := by
  have hr := fun W (hW : Below w.heap.size w W) => serving_any s (some ⟨b, off, none⟩) sa lc sc W (Nat.le_trans hz.ops (by unfold maxLen; omega)) hlc (fun o ho => ⟨Nat.le_trans (hz.osz o ho).1 (by unfold maxLen; omega), Nat.le_trans (hz.osz o ho).2 (by unfold maxLen; omega)⟩) hz.seen (hA.stays hW) (hB.stays hW)
  have hB0 := SD.start w s (some ⟨b, off, none⟩) lc sa sc
  have HB0 := hide hB0
  obtain ⟨p0, p1⟩ := hB0.sb.cells
  have HR := hide hr
  have HSr := hide hsr
  unfold SrvV.agg at *
  clear hr hB0 hA hB hz hsr
  go_enter Try.func22, Try.ntmps22
  go_wp2_with (first | (go_at_call 28; (refine (HR.out _ HB0.out.sb.below).mono ?_); intro e w1 h1; obtain ⟨a1, n1, c1, x1, he, hb1, hm1⟩ := h1; rw [HSr.out] at he; subst he; have hB1 := HB0.out.step hb1; have HB1 := hide hB1; clear p0 p1 hb1 hm1; obtain ⟨p0, p1⟩ := hB1.sb.cells; have pa : ∀ o, (w1.alloc o).cell? ⟨w.heap.size, 0, none⟩ = some (.slice (some ⟨b, off, none⟩) s.ops.length lc) := fun o => (World.cell?_alloc_lt _ _ _ (Nat.lt_trans (Nat.lt_succ_self _) hB1.lt)).trans p0; clear hB1) | (go_at_call 38; (refine (code_any _ (by omega) _).mono ?_); intro e w2 h2; obtain ⟨rfl, hw2⟩ := h2; have hB2 := HB1.out.step (((Below.refl _ w1).alloc (Nat.le_refl _) (.cells #[.slice a1 n1 c1, .map x1] 57))); rw [hw2] at hB2; clear hw2; have HB2 := hide hB2; obtain ⟨r0, r1, r2, r3, r4, fr_⟩ := five_ hB2.res; clear hB2 p0 p1 pa) | fail)
  all_goals (
    go_wp2_with (first | (go_at_call 28; (refine (HR.out _ HB0.out.sb.below).mono ?_); intro e w1 h1; obtain ⟨a1, n1, c1, x1, he, hb1, hm1⟩ := h1; rw [HSr.out] at he; subst he; have hB1 := HB0.out.step hb1; have HB1 := hide hB1; clear p0 p1 hb1 hm1; obtain ⟨p0, p1⟩ := hB1.sb.cells; have pa : ∀ o, (w1.alloc o).cell? ⟨w.heap.size, 0, none⟩ = some (.slice (some ⟨b, off, none⟩) s.ops.length lc) := fun o => (World.cell?_alloc_lt _ _ _ (Nat.lt_trans (Nat.lt_succ_self _) hB1.lt)).trans p0; clear hB1) | (go_at_call 38; (refine (code_any _ (by omega) _).mono ?_); intro e w2 h2; obtain ⟨rfl, hw2⟩ := h2; have hB2 := HB1.out.step (((Below.refl _ w1).alloc (Nat.le_refl _) (.cells #[.slice a1 n1 c1, .map x1] 57))); rw [hw2] at hB2; clear hw2; have HB2 := hide hB2; obtain ⟨r0, r1, r2, r3, r4, fr_⟩ := five_ hB2.res; clear hB2 p0 p1 pa) | fail)
    refine bodyPost_ret (v := .agg #[.slice none 0 0, .slice none 0 0, .slice none 0 0, .int .i64 0, .int .i64 1]) (by simp [results, Try.results22, go_sem, codeOf, r0, r1, r2, r3, r4]) rfl (IvT.ill (below5 HB2.out.sb.below (by omega) _ _ _ _ _)))
set_option maxRecDepth 100000 in
set_option maxHeartbeats 1000000 in
theorem iDl_ok (s : SrvV) (b off lc : Nat) (sa : Option Addr) (sc : Nat) (fr most : Int) (w : World) (hz : SSz 1048576 s) (hlc : s.ops.length ≤ lc) (hA : OpsAt w (some ⟨b, off, none⟩) s.ops) (hB : SeensAt w sa s.seen) (hsr : srvRight s = true) (d1 : decide (fr < 0) = false) (d2 : decide ((s.ops.length : Int) < fr) = false) (d3 : decide (most < 0) = false) (d4 : decide (50 < most) = false) :
    Calls Try.prog 22 #[s.agg (some ⟨b, off, none⟩) lc sa sc, .int .i64 fr, .int .i64 most] w fun e w' => IvT w w' e ⟨SrvV.zero, dlOps s fr most, 0, 0⟩ := by
  have hr := fun W (hW : Below w.heap.size w W) => serving_any s (some ⟨b, off, none⟩) sa lc sc W (Nat.le_trans hz.ops (by unfold maxLen; omega)) hlc (fun o ho => ⟨Nat.le_trans (hz.osz o ho).1 (by unfold maxLen; omega), Nat.le_trans (hz.osz o ho).2 (by unfold maxLen; omega)⟩) hz.seen (hA.stays hW) (hB.stays hW)
  have hB0 := SD.start w s (some ⟨b, off, none⟩) lc sa sc
  have HB0 := hide hB0
  obtain ⟨p0, p1⟩ := hB0.sb.cells
  have HR := hide hr
  have HSr := hide hsr
  have hi1 : 0 ≤ fr ∧ fr ≤ (s.ops.length : Int) := by simp at d1 d2; omega
  have hi2 : 0 ≤ most ∧ most ≤ 50 := by simp at d3 d4; omega
  obtain ⟨k, rfl⟩ : ∃ k : Nat, fr = (k : Int) := ⟨fr.toNat, by omega⟩
  obtain ⟨q, rfl⟩ : ∃ q : Nat, most = (q : Int) := ⟨most.toNat, by omega⟩
  obtain ⟨l, hl⟩ : ∃ l, l = (s.ops.drop k).take q := ⟨_, rfl⟩
  have hll : l.length = min q (s.ops.length - k) := by rw [hl, List.length_take, List.length_drop]
  have hRR := (srv_iff s).1 hsr
  have h150 := hRR.ops.1
  have d2n : decide (s.ops.length < k) = false := by simp; omega
  have d4n : decide (50 < q) = false := by simp; omega
  have hwr : wrap64 ((k : Int) + (q : Int)) = (k : Int) + (q : Int) := by unfold wrap64; omega
  have hsl := fun W => slice_mid W b off s.ops.length lc k l.length (k : Int) (min ((k : Int) + (q : Int)) (s.ops.length : Int)) rfl (by omega) (by omega)
  have hat : ∀ W, Below w.heap.size w W → OpsAt W (some ⟨b, fromOff off lc k, none⟩) l := fun W hW => by rw [hl]; exact ((hA.stays hW).from k hlc).take q
  have hls : ∀ o ∈ l, o.name.size ≤ 1048576 ∧ o.value.size ≤ 1048576 := fun o ho => hz.osz o (by rw [hl] at ho; exact List.mem_of_mem_drop (List.mem_of_mem_take ho))
  have HLs := hide hls
  have HAt := hide hat
  have HD : Hid (dlOps s (k : Int) (q : Int) = l) := ⟨by rw [hl]; unfold dlOps; rfl⟩
  have hl150 : l.length ≤ 150 := by omega
  unfold SrvV.agg at *
  clear hr hB0 hA hB hz hl hll hRR hat hls hsr hi1 hi2
  go_enter Try.func22, Try.ntmps22
  go_wp2_with (first | (go_at_call 28; (refine (HR.out _ HB0.out.sb.below).mono ?_); intro e w1 h1; obtain ⟨a1, n1, c1, x1, he, hb1, hm1⟩ := h1; rw [HSr.out] at he; subst he; have hB1 := HB0.out.step hb1; have HB1 := hide hB1; clear p0 p1 hb1 hm1; obtain ⟨p0, p1⟩ := hB1.sb.cells; have pa : ∀ o, (w1.alloc o).cell? ⟨w.heap.size, 0, none⟩ = some (.slice (some ⟨b, off, none⟩) s.ops.length lc) := fun o => (World.cell?_alloc_lt _ _ _ (Nat.lt_trans (Nat.lt_succ_self _) hB1.lt)).trans p0; clear hB1) | (go_at_call 49; go_loud ((refine (own_ex l (some ⟨b, fromOff off lc k, none⟩) (lc - k) _ (by omega) (HAt.out _ (HB1.out.sb.below.alloc HB1.out.sb.below.size _)) HLs.out).mono ?_); rintro e w3 ⟨g3, rfl, hg3, hop3, hb3⟩; have hB3 := HB1.out.step (((Below.refl _ w1).alloc (Nat.le_refl _) _).trans (hb3.mono (base_alloc _ _))); have HB3 := hide hB3; have hlt3 : w1.heap.size ≤ g3 := Nat.le_trans (base_alloc _ _) hg3; have HX3 := hide (And.intro hlt3 hop3); clear hg3 hop3 hb3 hlt3 p0 p1 pa; obtain ⟨r0, r1, r2, r3, r4, fr_⟩ := five_ hB3.res; clear hB3)) | fail)
  have hx := HX3.out
  have hlt := HB1.out.lt
  refine bodyPost_ret (v := .agg #[.slice none 0 0, .slice none 0 0, .slice (some ⟨g3, 0, none⟩) l.length l.length, .int .i64 0, .int .i64 0]) (by simp [results, Try.results22, go_sem, r0, r1, r2, r3, r4]) rfl ?_
  rw [HD.out]
  have hin := in5 (g := w.heap.size + 1) hx.2 (by omega) (.slice none 0 0) (.slice none 0 0) (.slice (some ⟨g3, 0, none⟩) l.length l.length) (.int .i64 0) (.int .i64 0)
  exact ⟨none, 0, none, 0, some ⟨g3, 0, none⟩, l.length, rfl, no_ops, SeensAt.none_ _, hin.opsAt, ⟨⟨.inr ⟨rfl, rfl⟩, .inr ⟨rfl, rfl⟩, fun x y e => (by cases e)⟩, in_mark hin, fun x y e => (by cases e), fun x y e => (by cases e)⟩, fun a e => (by cases e), fun a e => (by cases e), fun a e => (by cases e; show w.heap.size ≤ g3; omega), below5 HB3.out.sb.below (by omega) _ _ _ _ _⟩
/-- What impl.Download answers. -/
theorem iDl_any (s : SrvV) (b off lc : Nat) (sa : Option Addr) (sc : Nat) (fr most : Int) (w : World) (hz : SSz 1048576 s) (hlc : s.ops.length ≤ lc) (hA : OpsAt w (some ⟨b, off, none⟩) s.ops) (hB : SeensAt w sa s.seen) : Calls Try.prog 22 #[s.agg (some ⟨b, off, none⟩) lc sa sc, .int .i64 fr, .int .i64 most] w fun e w' => IvT w w' e (dlRes s fr most) := by
  cases hsr : srvRight s
  · rw [show dlRes s fr most = SOutV.ill 0 1 by simp [dlRes, hsr]]
    exact iDl_1 s b off lc sa sc fr most w hz hlc hA hB hsr
  cases d1 : decide (fr < 0)
  cases d2 : decide ((s.ops.length : Int) < fr)
  cases d3 : decide (most < 0)
  cases d4 : decide (50 < most)
  · have e : dlRes s fr most = ⟨SrvV.zero, dlOps s fr most, 0, 0⟩ := by
      simp at d1 d2 d3 d4
      unfold dlRes
      rw [if_neg (by simp [hsr, isIn]; omega)]
    rw [e]
    exact iDl_ok s b off lc sa sc fr most w hz hlc hA hB hsr d1 d2 d3 d4
  · rw [show dlRes s fr most = SOutV.ill 0 1 by simp at d4; unfold dlRes; rw [if_pos (by simp [hsr, isIn]; omega)]]
    exact iDl_5 s b off lc sa sc fr most w hz hlc hA hB hsr d1 d2 d3 d4
  · rw [show dlRes s fr most = SOutV.ill 0 1 by simp at d3; unfold dlRes; rw [if_pos (by simp [hsr, isIn]; omega)]]
    exact iDl_4 s b off lc sa sc fr most w hz hlc hA hB hsr d1 d2 d3
  · rw [show dlRes s fr most = SOutV.ill 0 1 by simp at d2; unfold dlRes; rw [if_pos (by simp [hsr, isIn]; omega)]]
    exact iDl_3 s b off lc sa sc fr most w hz hlc hA hB hsr d1 d2
  · rw [show dlRes s fr most = SOutV.ill 0 1 by simp at d1; unfold dlRes; rw [if_pos (by simp [hsr, isIn]; omega)]]
    exact iDl_2 s b off lc sa sc fr most w hz hlc hA hB hsr d1
end Go.Proofs.Ytkfjommoogmehaa.OpR
