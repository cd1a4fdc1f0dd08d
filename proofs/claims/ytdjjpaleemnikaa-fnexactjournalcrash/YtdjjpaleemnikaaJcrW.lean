/- Proves what spec.JournalCrash and impl.JournalCrash answer. -/
import Derived.Test.YtdjjpaleemnikaaJrH
import Derived.Test.YtdjjpaleemnikaaClone
namespace Go.Proofs.Ytdjjpaleemnikaa.OpR
open Go.ChangeShapes Go.WideShapes Go.ChangeAt Go.RowKit
set_option linter.unusedVariables false

/-- How much is left behind a crash. -/
def crashK (j : JrnV) (keep : Int) : Nat := (j.synced + min (max keep 0) ((j.log.size : Int) - j.synced)).toNat
def crashRes (j : JrnV) (keep : Int) : JrnV := if (0 ≤ j.synced ∧ j.synced ≤ (j.log.size : Int)) then ⟨j.log.extract 0 (crashK j keep), (crashK j keep : Nat)⟩ else j
theorem cut_head (s : ByteArray) (k : Nat) (K : Int) (hK : K = (k : Int)) (h1 : k ≤ s.size) (W : World) :
    (Instr.slice 9 (.string s) none (some (.int .i64 K)) none).run Try.prog W = .ok (.string (s.extract 0 k)) W := by
  subst hK
  have hu : Try.prog.underlying 9 = some .string := Try.underlying9
  simp [go_sem, hu, h1]
/-- A journal in two cells. -/
theorem jr_two {w : World} {g : Nat} {v0 v1 : Value} {T : TypeId} (h : w.heap[g]? = some (.cells #[v0, v1] T (0, 0))) : w.cell? ⟨g, 0, none⟩ = some v0 ∧ w.cell? ⟨g, 1, none⟩ = some v1 ∧ (∀ i, w.frozen? ⟨g, i, none⟩ = false) ∧ g < w.heap.size := by
  refine ⟨by simp [World.cell?, h], by simp [World.cell?, h], fun i => by simp [World.frozen?, h], (Array.getElem?_eq_some_iff.1 h).1⟩
theorem jr_kept {W w1 : World} {B g : Nat} {v0 v1 : Value} {T : TypeId} (hb : Below B W w1) (h : W.heap[g]? = some (.cells #[v0, v1] T (0, 0))) (hg : g < B) :
    w1.cell? ⟨g, 0, none⟩ = some v0 ∧ w1.cell? ⟨g, 1, none⟩ = some v1 ∧ (∀ i, w1.frozen? ⟨g, i, none⟩ = false) ∧ g < w1.heap.size :=
  jr_two ((hb.block g hg).trans h)
set_option maxRecDepth 100000 in
set_option maxHeartbeats 400000 in
theorem jMin_any (x y : Int) (w : World) : Calls Try.prog 30 #[.int .i64 x, .int .i64 y] w fun e w' => e = .returned (.int .i64 (min x y)) ∧ w = w' := by
  by_cases h : x < y
  · have hd : decide (x < y) = true := by simpa using h
    have e : min x y = x := by omega
    rw [e]
    clear h e
    go_enter Try.func30, Try.ntmps30
    go_wp2
    go_ret
    exact ⟨rfl, rfl⟩
  · have hd : decide (x < y) = false := by simpa using h
    have e : min x y = y := by omega
    rw [e]
    clear h e
    go_enter Try.func30, Try.ntmps30
    go_wp2
    go_ret
    exact ⟨rfl, rfl⟩
set_option maxRecDepth 100000 in
set_option maxHeartbeats 400000 in
theorem synced_any (s : ByteArray) (w : World) (hs : s.size ≤ 1099511627776) : Calls Try.prog 51 #[.string s] w fun e w' => e = .returned (JrnV.mk s s.size).agg ∧ Below w.heap.size w w' := by
  have hc := fun W => NumR.clone_any s W hs
  obtain ⟨n, hn⟩ : ∃ n, n = s.size := ⟨_, rfl⟩
  show Calls _ _ _ _ fun e w' => e = .returned (.agg #[.string s, .int .i64 (s.size : Int)]) ∧ _
  go_enter Try.func51, Try.ntmps51
  go_wp2_with (first | (go_at_call 68; refine (hc _).mono ?_; rintro e w1 ⟨rfl, hb1⟩; obtain ⟨c0, c1, fz, hlt⟩ := jr_kept hb1 (g := w.heap.size) (heap_alloc_new w _) (by simp)))
  exact bodyPost_ret (v := .agg #[.string s, .int .i64 (s.size : Int)]) (by simp [results, Try.results51, go_sem, c0, c1]) rfl ⟨rfl, (((((Below.refl _ _).alloc (Nat.le_refl _) _).trans (hb1.mono (by simp))).setCell (Nat.le_refl _) _).setCell (Nat.le_refl _) _)⟩
/-- The answer's own variable behind the argument's. -/
structure JD (w W : World) (j : JrnV) : Prop where
  box : W.heap[w.heap.size]? = some (.cells #[.string j.log, .int .i64 j.synced] 47 (0, 0))
  res : W.heap[w.heap.size + 1]? = some (.cells #[.string ⟨#[]⟩, .int .i64 0] 47 (0, 0))
  below : Below w.heap.size w W
theorem JD.lt {w W : World} {j : JrnV} (h : JD w W j) : w.heap.size + 1 < W.heap.size := (Array.getElem?_eq_some_iff.1 h.res).1
theorem JD.step {w W W' : World} {j : JrnV} (h : JD w W j) (hb : Below W.heap.size W W') : JD w W' j := ⟨(hb.block _ (Nat.lt_of_succ_lt h.lt)).trans h.box, (hb.block _ h.lt).trans h.res, h.below.trans (hb.mono h.below.size)⟩
theorem JD.new (w : World) (j : JrnV) : JD w ((w.alloc (.cells #[.string j.log, .int .i64 j.synced] 47)).alloc (.cells #[.string ⟨#[]⟩, .int .i64 0] 47)) j := by
  have h := heap_alloc_new (w.alloc (.cells #[.string j.log, .int .i64 j.synced] 47)) (.cells #[.string ⟨#[]⟩, .int .i64 0] 47)
  rw [show (w.alloc (.cells #[.string j.log, .int .i64 j.synced] 47)).heap.size = w.heap.size + 1 by simp] at h
  have hb : Below w.heap.size w (w.alloc (.cells #[.string j.log, .int .i64 j.synced] 47)) := (Below.refl _ _).alloc (Nat.le_refl _) _
  have hb2 := (Below.refl (w.alloc (.cells #[.string j.log, .int .i64 j.synced] 47)).heap.size (w.alloc (.cells #[.string j.log, .int .i64 j.synced] 47))).alloc (Nat.le_refl _) (.cells #[.string ⟨#[]⟩, .int .i64 0] 47)
  exact ⟨(hb2.block _ (by simp)).trans (heap_alloc_new w _), h, hb.trans (hb2.mono (by simp))⟩
theorem JD.cells {w W : World} {j : JrnV} (h : JD w W j) : W.cell? ⟨w.heap.size, 0, none⟩ = some (.string j.log) ∧ W.cell? ⟨w.heap.size, 1, none⟩ = some (.int .i64 j.synced) ∧ W.cell? ⟨w.heap.size + 1, 0, none⟩ = some (.string ⟨#[]⟩) ∧ W.cell? ⟨w.heap.size + 1, 1, none⟩ = some (.int .i64 0) ∧ (∀ i, W.frozen? ⟨w.heap.size + 1, i, none⟩ = false) := by
  obtain ⟨a, b, _, _⟩ := jr_two h.box
  obtain ⟨c, d, e, _⟩ := jr_two h.res
  exact ⟨a, b, c, d, e⟩
theorem JD.dcells {w W : World} {j : JrnV} (h : JD w W j) : W.drew.cell? ⟨w.heap.size, 0, none⟩ = some (.string j.log) ∧ W.drew.cell? ⟨w.heap.size, 1, none⟩ = some (.int .i64 j.synced) := ⟨h.cells.1, h.cells.2.1⟩
theorem keep2 {W : World} {n : Nat} {a b : Option Value} (h : W.cell? ⟨n, 0, none⟩ = a ∧ W.cell? ⟨n, 1, none⟩ = b) (v0 v1 : Value) : ((W.setCell ⟨n + 1, 0, none⟩ v0).setCell ⟨n + 1, 1, none⟩ v1).cell? ⟨n, 0, none⟩ = a ∧ ((W.setCell ⟨n + 1, 0, none⟩ v0).setCell ⟨n + 1, 1, none⟩ v1).cell? ⟨n, 1, none⟩ = b := by
  have e : ((W.setCell ⟨n + 1, 0, none⟩ v0).setCell ⟨n + 1, 1, none⟩ v1).heap[n]? = W.heap[n]? := (Below.heap_setCell _ _ _ _ (by show n ≠ n + 1; omega)).trans (Below.heap_setCell _ _ _ _ (by show n ≠ n + 1; omega))
  simpa only [World.cell?, e] using h
theorem below2 {B : Nat} {a w : World} (h : Below B a w) {g : Nat} (hg : B ≤ g) (v0 v1 : Value) : Below B a ((w.setCell ⟨g, 0, none⟩ v0).setCell ⟨g, 1, none⟩ v1) := (h.setCell hg _).setCell hg _
set_option maxRecDepth 100000 in
set_option maxHeartbeats 1000000 in
theorem asIs_any (j : JrnV) (w : World) (hs : j.log.size ≤ 1099511627776) : Calls Try.prog 50 #[j.agg] w fun e w' => e = .returned j.agg ∧ Below w.heap.size w w' := by
  have hc := fun W => NumR.clone_any j.log W hs
  have HD := hide (JD.new w j)
  obtain ⟨p0, p1, r0, r1, fr⟩ := HD.out.cells
  have HC := hide hc
  unfold JrnV.agg
  clear hc
  go_enter Try.func50, Try.ntmps50
  go_wp2
  have hd0 := HD.out.dcells
  have hd1 := HD.out.dcells
  have hd2 := keep2 HD.out.dcells (.string j.log) (.int .i64 j.synced)
  go_region_held3 (fun W => W.cell? ⟨w.heap.size, 0, none⟩ = some (.string j.log) ∧ W.cell? ⟨w.heap.size, 1, none⟩ = some (.int .i64 j.synced)) (first | with_reducible exact hd0 | with_reducible exact hd1 | with_reducible exact hd2) (first | (go_at_call 68; refine (HC.out _).mono ?_; rintro e w1 ⟨rfl, hb1⟩; have HD1 := hide (JD.step (HD.out.step (Below.refl _ _).drew) hb1); clear hb1 p0 p1 r0 r1 fr; obtain ⟨p0, p1, r0, r1, fr⟩ := HD1.out.cells; clear hd1 hd2; have hd1 := And.intro p0 p1; have hd2 := keep2 hd1 (.string j.log) (.int .i64 j.synced)))
  all_goals go_wp2
  all_goals exact bodyPost_ret (v := .agg #[.string j.log, .int .i64 j.synced]) (by simp [results, Try.results50, go_sem, r0, r1]) rfl ⟨rfl, below2 HD1.out.below (by omega) _ _⟩
theorem crash_yes {j : JrnV} {keep : Int} (h0 : 0 ≤ j.synced) (h1 : j.synced ≤ (j.log.size : Int)) : ∃ k : Nat, crashK j keep = k ∧ k ≤ j.log.size ∧ (k : Int) = j.synced + min (max keep 0) ((j.log.size : Int) - j.synced) ∧ crashRes j keep = ⟨j.log.extract 0 k, (k : Int)⟩ := by
  refine ⟨crashK j keep, rfl, ?_, ?_, ?_⟩
  · unfold crashK; omega
  · unfold crashK; omega
  · unfold crashRes; rw [if_pos ⟨h0, h1⟩]
theorem crash_no {j : JrnV} {keep : Int} (h : ¬ (0 ≤ j.synced ∧ j.synced ≤ (j.log.size : Int))) : crashRes j keep = j := by unfold crashRes; rw [if_neg h]
set_option maxRecDepth 100000 in
set_option maxHeartbeats 1000000 in
theorem iCrash_any (j : JrnV) (keep : Int) (w : World) (hs : j.log.size ≤ 1048576) : Calls Try.prog 21 #[j.agg, .int .i64 keep] w fun e w' => e = .returned (crashRes j keep).agg ∧ Below w.heap.size w w' := by
  have HD := hide (JD.new w j)
  obtain ⟨p0, p1, r0, r1, fr⟩ := HD.out.cells
  obtain ⟨n, hn⟩ : ∃ n : Nat, n = j.log.size := ⟨_, rfl⟩
  by_cases h : 0 ≤ j.synced ∧ j.synced ≤ (j.log.size : Int)
  · obtain ⟨h0, h1⟩ := h
    obtain ⟨k, hk, hkl, hke, hres⟩ := crash_yes (keep := keep) h0 h1
    rw [hres]
    have hsz : (j.log.extract 0 k).size = k := by simp; omega
    have hy := fun W => synced_any (j.log.extract 0 k) W (by omega)
    rw [hsz] at hy
    have HY := hide hy
    have hsl := fun W => cut_head j.log k (j.synced + min (max keep 0) ((j.log.size : Int) - j.synced)) hke.symm hkl W
    have hw1 : wrap64 ((j.log.size : Int) - j.synced) = (j.log.size : Int) - j.synced := by unfold wrap64; omega
    have hw2 : wrap64 (j.synced + min (max keep 0) ((j.log.size : Int) - j.synced)) = j.synced + min (max keep 0) ((j.log.size : Int) - j.synced) := by unfold wrap64; omega
    have d1 : decide (j.synced < 0) = false := by simpa using h0
    have d2 : decide ((j.log.size : Int) < j.synced) = false := by simpa using h1
    unfold JrnV.agg at *
    clear hy hres hk hsz hke hkl h0 h1 hn
    go_enter Try.func21, Try.ntmps21
    go_wp2_with (first | (go_at_call 51; refine (HY.out _).mono ?_; rintro e w1 ⟨rfl, hb1⟩; have HD1 := hide (HD.out.step hb1); clear hb1 p0 p1 r0 r1 fr; obtain ⟨p0, p1, r0, r1, fr⟩ := HD1.out.cells) | fail)
    exact bodyPost_ret (v := .agg #[.string (j.log.extract 0 k), .int .i64 (k : Int)]) (by simp [results, Try.results21, go_sem, r0, r1]) rfl ⟨rfl, below2 HD1.out.below (by omega) _ _⟩
  · rw [crash_no h]
    have hy := fun W => asIs_any j W (by omega)
    have HY := hide hy
    unfold JrnV.agg at *
    by_cases h0 : j.synced < 0
    · have d1 : decide (j.synced < 0) = true := by simpa using h0
      clear hy h hn h0
      go_enter Try.func21, Try.ntmps21
      go_wp2_with (first | (go_at_call 50; refine (HY.out _).mono ?_; rintro e w1 ⟨rfl, hb1⟩; have HD1 := hide (HD.out.step hb1); clear hb1 p0 p1 r0 r1 fr; obtain ⟨p0, p1, r0, r1, fr⟩ := HD1.out.cells) | fail)
      exact bodyPost_ret (v := .agg #[.string j.log, .int .i64 j.synced]) (by simp [results, Try.results21, go_sem, r0, r1]) rfl ⟨rfl, below2 HD1.out.below (by omega) _ _⟩
    · have d1 : decide (j.synced < 0) = false := by simpa using h0
      have d2 : decide ((j.log.size : Int) < j.synced) = true := by simp; omega
      clear hy h hn h0
      go_enter Try.func21, Try.ntmps21
      go_wp2_with (first | (go_at_call 50; refine (HY.out _).mono ?_; rintro e w1 ⟨rfl, hb1⟩; have HD1 := hide (HD.out.step hb1); clear hb1 p0 p1 r0 r1 fr; obtain ⟨p0, p1, r0, r1, fr⟩ := HD1.out.cells) | fail)
      exact bodyPost_ret (v := .agg #[.string j.log, .int .i64 j.synced]) (by simp [results, Try.results21, go_sem, r0, r1]) rfl ⟨rfl, below2 HD1.out.below (by omega) _ _⟩
set_option maxRecDepth 100000 in
set_option maxHeartbeats 1000000 in
theorem sCrash_any (j : JrnV) (keep : Int) (w : World) (hs : j.log.size ≤ 1048576) : Calls Try.prog 19 #[j.agg, .int .i64 keep] w fun e w' => e = .returned (crashRes j keep).agg ∧ Below w.heap.size w w' := by
  have HD := hide (JD.new w j)
  obtain ⟨p0, p1, r0, r1, fr⟩ := HD.out.cells
  have hi := fun W => is_any j.synced 0 (j.log.size : Int) W
  by_cases h : 0 ≤ j.synced ∧ j.synced ≤ (j.log.size : Int)
  · obtain ⟨h0, h1⟩ := h
    obtain ⟨k, hk, hkl, hke, hres⟩ := crash_yes (keep := keep) h0 h1
    rw [hres]
    rw [show isIn j.synced 0 (j.log.size : Int) = true by unfold isIn; simp; omega] at hi
    have HI := hide hi
    by_cases hkp : 0 < keep
    · have hm := fun W => jMin_any keep ((j.log.size : Int) - j.synced) W
      have HM := hide hm
      have e1 : max keep 0 = keep := by omega
      rw [e1] at hke
      have hsl := fun W => cut_head j.log k (j.synced + min keep ((j.log.size : Int) - j.synced)) hke.symm hkl W
      have hw1 : wrap64 ((j.log.size : Int) - j.synced) = (j.log.size : Int) - j.synced := by unfold wrap64; omega
      have hw2 : wrap64 (j.synced + min keep ((j.log.size : Int) - j.synced)) = j.synced + min keep ((j.log.size : Int) - j.synced) := by unfold wrap64; omega
      have HKE := hide hke
      have d1 : decide (0 < keep) = true := by simpa using hkp
      unfold JrnV.agg at *
      clear hi hm hres hk hke hkl h0 h1 e1 hkp
      go_enter Try.func19, Try.ntmps19
      go_wp2_with (first | (go_at_call 49; refine (HI.out _).mono ?_; rintro e w1 ⟨rfl, rfl⟩) | (go_at_call 30; refine (HM.out _).mono ?_; rintro e w1 ⟨rfl, rfl⟩) | fail)
      rw [← HKE.out]
      exact bodyPost_ret (v := .agg #[.string (j.log.extract 0 k), .int .i64 (k : Int)]) (by simp [results, Try.results19, go_sem]) rfl ⟨rfl, by first | exact below2 HD.out.below (by omega) _ _ | exact ((Below.refl _ _).alloc (Nat.le_refl _) _).alloc (by simp) _⟩
    · have e1 : min (max keep 0) ((j.log.size : Int) - j.synced) = 0 := by omega
      rw [e1] at hke
      have hsl := fun W => cut_head j.log k j.synced (by omega) hkl W
      have hks : j.synced = (k : Int) := by omega
      have HKE := hide hks
      have d1 : decide (0 < keep) = false := by simpa using hkp
      unfold JrnV.agg at *
      clear hi hres hk hke hkl h0 h1 e1 hkp hks
      go_enter Try.func19, Try.ntmps19
      go_wp2_with (first | (go_at_call 49; refine (HI.out _).mono ?_; rintro e w1 ⟨rfl, rfl⟩) | fail)
      rw [HKE.out]
      exact bodyPost_ret (v := .agg #[.string (j.log.extract 0 k), .int .i64 (k : Int)]) (by simp [results, Try.results19, go_sem]) rfl ⟨rfl, by first | exact below2 HD.out.below (by omega) _ _ | exact ((Below.refl _ _).alloc (Nat.le_refl _) _).alloc (by simp) _⟩
  · rw [crash_no h]
    rw [show isIn j.synced 0 (j.log.size : Int) = false by unfold isIn; rw [← Bool.not_eq_true]; simp; omega] at hi
    have HI := hide hi
    unfold JrnV.agg at *
    clear hi h
    go_enter Try.func19, Try.ntmps19
    go_wp2_with (first | (go_at_call 49; refine (HI.out _).mono ?_; rintro e w1 ⟨rfl, rfl⟩) | fail)
    exact bodyPost_ret (v := .agg #[.string j.log, .int .i64 j.synced]) (by simp [results, Try.results19, go_sem]) rfl ⟨rfl, by first | exact below2 HD.out.below (by omega) _ _ | exact ((Below.refl _ _).alloc (Nat.le_refl _) _).alloc (by simp) _⟩
end Go.Proofs.Ytdjjpaleemnikaa.OpR
