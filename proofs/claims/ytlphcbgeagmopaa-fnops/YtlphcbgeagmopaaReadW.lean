/- Proves what spec.OpsRead and impl.OpsRead tell. -/
import Derived.Test.YtlphcbgeagmopaaRdQ
import Derived.Test.YtlphcbgeagmopaaSLog
import Derived.Test.YtlphcbgeagmopaaIBytes
namespace Go.Proofs.Ytlphcbgeagmopaa.OpR
open Go.ChangeShapes Go.WideShapes Go.ChangeAt Go.RowKit Go.ChangeMaps
set_option linter.unusedVariables false

set_option maxRecDepth 100000 in
set_option maxHeartbeats 400000 in
theorem sRead_any (t : ByteArray) (w : World) (hm : t.size ≤ maxLen) :
    Calls Try.prog 16 #[.string t] w fun e w' => OutAt w w' e (readRes t) := by
  unfold maxLen at hm
  by_cases h8 : 8000 < t.size
  · have HF : Hid (readRes t = ([], 0, 2)) := ⟨read_far h8⟩
    go_enter Try.func16, Try.ntmps16
    go_wp2
    refine bodyPost_ret (v := .agg #[.slice none 0 0, .int .i64 0, .int .i64 2]) (by simp [results, Try.results16, go_sem]) rfl ⟨.slice none 0 0, by rw [HF.out], .inr ⟨rfl, by rw [HF.out]⟩, ?_⟩
    exact (Below.refl _ _).alloc (Nat.le_refl _) _
  · obtain ⟨X, hX⟩ : ∃ X, X = (w.alloc (.cells #[.slice none 0 0, .int .i64 0, .int .i64 0] 27)).alloc (.cells #[.string t, .int .i64 0, .bool false] 89) := ⟨_, rfl⟩
    have hs : X.heap.size = w.heap.size + 2 := by rw [hX]; simp
    have hr : SRd X (w.heap.size + 1) t (some 0) := by
      refine ⟨0, false, ?_, by omega, rfl⟩
      rw [hX]
      have h := heap_alloc_new (w.alloc (.cells #[.slice none 0 0, .int .i64 0, .int .i64 0] 27)) (.cells #[.string t, .int .i64 0, .bool false] 89)
      simpa using h
    have h1 := sRdOps t (w.heap.size + 1) X (by omega) hr
    have hb0 : Below w.heap.size w X := by rw [hX]; exact ((Below.refl _ _).alloc (Nat.le_refl _) _).alloc (by simp) _
    have hq0 : X.heap[w.heap.size]? = some (.cells #[.slice none 0 0, .int .i64 0, .int .i64 0] 27 (0, 0)) := by rw [hX]; exact (Below.heap_alloc _ _ _ (by simp)).trans (heap_alloc_new w _)
    have HX := Hid.mk hX
    have H1 := Hid.mk h1
    have Hq0 := Hid.mk hq0
    clear hr h1 hX hq0
    go_enter Try.func16, Try.ntmps16
    go_wp2_with fail
    rw [← HX.out]
    refine H1.out.mono ?_
    rintro e w1 ⟨v, rfl, hO, hr1, hg1⟩
    obtain ⟨L, hL⟩ : ∃ L, L = (rAll t).1 := ⟨_, rfl⟩
    rw [← hL] at hO
    have hLl : L.length ≤ 8001 := by rw [hL]; have := rAll_len t; omega
    have HLe := Hid.mk hL
    have hSz : Sized L := fun o ho => by rw [hL] at ho; have := rAll_sized t o ho; unfold maxLen; omega
    have HSz := Hid.mk hSz
    obtain ⟨g, cap, rfl, hgb, hglt, hcap, hcm, hat⟩ := hO.at
    have HO := Hid.mk hO
    have HAt := Hid.mk hat
    have hB1 : Below w.heap.size w w1 := hb0.grown hg1 hb0.size (fun j hj => by cases hj; omega)
    have hres : w1.heap[w.heap.size]? = some (.cells #[.slice none 0 0, .int .i64 0, .int .i64 0] 27 (0, 0)) := (hg1.block w.heap.size (by omega) (fun e => by have := Option.some.inj e; omega)).trans Hq0.out
    have HRs := Hid.mk hres
    obtain ⟨r0, r1, r2, f0, f1, f2, hrlt⟩ := cells3 hres
    obtain ⟨a, bad, hl, ha, hst⟩ := hr1
    obtain ⟨c0, c1, c2, y0, y1, y2⟩ := cellsR hl
    have HSt := Hid.mk hst
    have H8 := Hid.mk h8
    clear hL hO hat hres hl hst hg1 H1 Hq0 HX hSz
    have hno : (¬ (endSt t = some t.size ∧ opsRight L = true)) → readRes t = ([], 0, 3) := fun hh => read_no H8.out (fun e => hh (by rw [HLe.out]; exact (read_end (by have := H8.out; omega)).2 e))
    have HNo := Hid.mk hno
    clear hno
    cases bad
    · have hs : endSt t = some a := HSt.out
      by_cases hat : a = t.size
      · subst hat
        have h2 := fun W (hW : Below w1.heap.size w1 W) => sOps_any L (some ⟨g, 0, none⟩) cap W (by unfold maxLen; omega) (HAt.out.stays hW) HSz.out
        have Hs := Hid.mk hs
        clear hs
        cases hor : opsRight L
        · rw [hor] at h2
          have HF : Hid (readRes t = ([], 0, 3)) := ⟨HNo.out (fun hh => by rw [hor] at hh; cases hh.2)⟩
          clear hor
          go_wp2_with (first | (go_at_call 13; refine (h2 _ (Below.refl _ _)).mono ?_; rintro e w2 ⟨rfl, hb2⟩; have hB2 := hB1.trans (hb2.mono hB1.size); clear r0 r1 r2 f0 f1 f2; obtain ⟨r0, r1, r2, f0, f1, f2, hrlt2⟩ := cells3 ((hb2.block w.heap.size hrlt).trans HRs.out)))
          refine bodyPost_ret (v := .agg #[.slice none 0 0, .int .i64 0, .int .i64 3]) (by simp [results, Try.results16, go_sem, r0, r1, r2]) rfl ⟨.slice none 0 0, by rw [HF.out], .inr ⟨rfl, by rw [HF.out]⟩, ?_⟩
          exact ((hB2.setCell (Nat.le_refl _) _).setCell (Nat.le_refl _) _).setCell (Nat.le_refl _) _
        · have HF : Hid (readRes t = (L, 0, 0)) := ⟨by
            have e := (read_end (t := t) (by have := H8.out; omega)).1 ⟨Hs.out, by rw [← HLe.out]; exact hor⟩
            rw [read_yes H8.out e, ← HLe.out]⟩
          rw [hor] at h2
          clear hor
          go_wp2_with (first | (go_at_call 13; refine (h2 _ (Below.refl _ _)).mono ?_; rintro e w2 ⟨rfl, hb2⟩; have hB2 := hB1.trans (hb2.mono hB1.size); clear r0 r1 r2 f0 f1 f2; obtain ⟨r0, r1, r2, f0, f1, f2, hrlt2⟩ := cells3 ((hb2.block w.heap.size hrlt).trans HRs.out)))
          refine bodyPost_ret (v := .agg #[.slice (some ⟨g, 0, none⟩) L.length cap, .int .i64 0, .int .i64 0]) (by simp [results, Try.results16, go_sem, r0, r1, r2]) rfl ⟨.slice (some ⟨g, 0, none⟩) L.length cap, by rw [HF.out], .inl ?_, ?_⟩
          · rw [HF.out]
            have hO2 : OwnAt w2 (w.heap.size + 1) 40 (.slice (some ⟨g, 0, none⟩) L.length cap) L := ⟨owns_base (HO.out.below hb2).1 (by omega), (HO.out.below hb2).2⟩
            have hO3 := ((hO2.setCell (b := w.heap.size) (i := 0) (x := .slice (some ⟨g, 0, none⟩) L.length cap) (Nat.lt_succ_self _)).setCell (b := w.heap.size) (i := 1) (x := .int .i64 0) (Nat.lt_succ_self _)).setCell (b := w.heap.size) (i := 2) (x := .int .i64 0) (Nat.lt_succ_self _)
            exact ⟨owns_base hO3.1 (by omega), hO3.2⟩
          · exact ((hB2.setCell (Nat.le_refl _) _).setCell (Nat.le_refl _) _).setCell (Nat.le_refl _) _
      · have HF : Hid (readRes t = ([], 0, 3)) := ⟨HNo.out (fun hh => by rw [hs] at hh; exact hat (Option.some.inj hh.1))⟩
        have hne : ¬ ((a : Int) = (t.size : Int)) := by omega
        clear hs
        go_wp2
        refine bodyPost_ret (v := .agg #[.slice none 0 0, .int .i64 0, .int .i64 3]) (by simp [results, Try.results16, go_sem, r0, r1, r2]) rfl ⟨.slice none 0 0, by rw [HF.out], .inr ⟨rfl, by rw [HF.out]⟩, ?_⟩
        exact ((hB1.setCell (Nat.le_refl _) _).setCell (Nat.le_refl _) _).setCell (Nat.le_refl _) _
    · have hs : endSt t = none := HSt.out
      have HF : Hid (readRes t = ([], 0, 3)) := ⟨HNo.out (fun hh => by rw [hs] at hh; cases hh.1)⟩
      clear hs
      go_wp2
      refine bodyPost_ret (v := .agg #[.slice none 0 0, .int .i64 0, .int .i64 3]) (by simp [results, Try.results16, go_sem, r0, r1, r2]) rfl ⟨.slice none 0 0, by rw [HF.out], .inr ⟨rfl, by rw [HF.out]⟩, ?_⟩
      exact ((hB1.setCell (Nat.le_refl _) _).setCell (Nat.le_refl _) _).setCell (Nat.le_refl _) _
theorem neqT {a b : ByteArray} (h : ¬ a = b) : (a.toList == b.toList) = false := by
  simp only [ByteArray.toList_eq, beq_eq_false_iff_ne, ne_eq]
  exact fun e => h (ByteArray.ext (Array.toList_inj.1 e))
theorem opsOf_owns {w : World} {base : Nat} {T : TypeId} {v : Value} {l : List OpV} (h : w.ownsRow base T 7 v l.length (flat l)) : OpsOf w base T v l := by
  by_cases hv : v = .slice none 0 0
  · rcases h.2 with ⟨e, hn⟩ | ⟨g, cap, cur, e, _⟩
    · exact .inr ⟨hv, List.eq_nil_of_length_eq_zero (by simpa using hn)⟩
    · rw [e] at hv; simp at hv
  · exact .inl ⟨h, hv⟩

set_option maxRecDepth 100000 in
set_option maxHeartbeats 400000 in
theorem iRead_any (t : ByteArray) (w : World) (hm : t.size ≤ maxLen) :
    Calls Try.prog 14 #[.string t] w fun e w' => OutAt w w' e (readRes t) := by
  unfold maxLen at hm
  by_cases h8 : 8000 < t.size
  · have HF : Hid (readRes t = ([], 0, 2)) := ⟨read_far h8⟩
    go_enter Try.func14, Try.ntmps14
    go_wp2
    refine bodyPost_ret (v := .agg #[.slice none 0 0, .int .i64 0, .int .i64 2]) (by simp [results, Try.results14, go_sem]) rfl ⟨.slice none 0 0, by rw [HF.out], .inr ⟨rfl, by rw [HF.out]⟩, ?_⟩
    exact (Below.refl _ _).alloc (Nat.le_refl _) _
  · obtain ⟨X, hX⟩ : ∃ X, X = (w.alloc (.cells #[.slice none 0 0, .int .i64 0, .int .i64 0] 27)).alloc (.cells #[.string t, .int .i64 0, .nilIface] 85) := ⟨_, rfl⟩
    have hs : X.heap.size = w.heap.size + 2 := by rw [hX]; simp
    have hr : IRd X (w.heap.size + 1) t (some 0) := by
      refine ⟨0, .nilIface, ?_, by omega, .inl ⟨rfl, rfl⟩⟩
      rw [hX]
      have h := heap_alloc_new (w.alloc (.cells #[.slice none 0 0, .int .i64 0, .int .i64 0] 27)) (.cells #[.string t, .int .i64 0, .nilIface] 85)
      simpa using h
    have h1 := iRdOps t (w.heap.size + 1) X (by omega) hr
    have hb0 : Below w.heap.size w X := by rw [hX]; exact ((Below.refl _ _).alloc (Nat.le_refl _) _).alloc (by simp) _
    have hq0 : X.heap[w.heap.size]? = some (.cells #[.slice none 0 0, .int .i64 0, .int .i64 0] 27 (0, 0)) := by rw [hX]; exact (Below.heap_alloc _ _ _ (by simp)).trans (heap_alloc_new w _)
    have HX := Hid.mk hX
    have H1 := Hid.mk h1
    have Hq0 := Hid.mk hq0
    clear hr h1 hX hq0
    go_enter Try.func14, Try.ntmps14
    go_wp2_with fail
    rw [← HX.out]
    refine H1.out.mono ?_
    rintro e w1 ⟨v, rfl, hO, hg1⟩
    obtain ⟨L, hL⟩ : ∃ L, L = (rAll t).1 := ⟨_, rfl⟩
    rw [← hL] at hO
    have hLl : L.length ≤ 8001 := by rw [hL]; have := rAll_len t; omega
    have HLe := Hid.mk hL
    have hSz : Sized L := fun o ho => by rw [hL] at ho; have := rAll_sized t o ho; unfold maxLen; omega
    obtain ⟨ao, cap, rfl, hcap, hat⟩ := owns_at hO
    have HO := Hid.mk hO
    have hB1 : Below w.heap.size w w1 := hb0.grown hg1 hb0.size (fun j hj => by cases hj; omega)
    have hres : w1.heap[w.heap.size]? = some (.cells #[.slice none 0 0, .int .i64 0, .int .i64 0] 27 (0, 0)) := (hg1.block w.heap.size (by omega) (fun e => by have := Option.some.inj e; omega)).trans Hq0.out
    have HRs := Hid.mk hres
    have hrlt : w.heap.size < w1.heap.size := (Array.getElem?_eq_some_iff.1 hres).1
    have H8 := Hid.mk h8
    have h2 := iOpsBytes_any L ao cap w1 (by unfold maxLen; omega) hcap hat hSz
    clear hL hO hat hres hg1 H1 Hq0 HX hSz
    by_cases heq : opsBytes L = t
    · have HF : Hid (readRes t = (L, 0, 0)) := ⟨by rw [read_yes H8.out (by rw [← HLe.out]; exact heq), ← HLe.out]⟩
      rw [heq] at h2
      clear heq
      go_wp2_with (first | (go_at_call 10; refine h2.mono ?_; rintro e w2 ⟨rfl, hb2⟩; have hB2 := hB1.trans (hb2.mono hB1.size); obtain ⟨r0, r1, r2, f0, f1, f2, hrlt2⟩ := cells3 ((hb2.block w.heap.size hrlt).trans HRs.out)))
      refine bodyPost_ret (v := .agg #[.slice ao L.length cap, .int .i64 0, .int .i64 0]) (by simp [results, Try.results14, go_sem, r0, r1, r2]) rfl ⟨.slice ao L.length cap, by rw [HF.out], ?_, ?_⟩
      · rw [HF.out]
        have hO2 : OpsOf w2 (w.heap.size + 1) 40 (.slice ao L.length cap) L := opsOf_owns (owns_base (owns_stays HO.out hb2) (by omega))
        exact (((hO2.setCell (b := w.heap.size) (i := 0) (x := .slice ao L.length cap) (Nat.lt_succ_self _)).setCell (b := w.heap.size) (i := 1) (x := .int .i64 0) (Nat.lt_succ_self _)).setCell (b := w.heap.size) (i := 2) (x := .int .i64 0) (Nat.lt_succ_self _)).base (by omega)
      · exact ((hB2.setCell (Nat.le_refl _) _).setCell (Nat.le_refl _) _).setCell (Nat.le_refl _) _
    · have HF : Hid (readRes t = ([], 0, 3)) := ⟨read_no H8.out (by rw [← HLe.out]; exact heq)⟩
      have hne := neqT heq
      clear heq
      go_wp2_with (first | (go_at_call 10; refine h2.mono ?_; rintro e w2 ⟨rfl, hb2⟩; have hB2 := hB1.trans (hb2.mono hB1.size); obtain ⟨r0, r1, r2, f0, f1, f2, hrlt2⟩ := cells3 ((hb2.block w.heap.size hrlt).trans HRs.out)))
      refine bodyPost_ret (v := .agg #[.slice none 0 0, .int .i64 0, .int .i64 3]) (by simp [results, Try.results14, go_sem, r0, r1, r2]) rfl ⟨.slice none 0 0, by rw [HF.out], .inr ⟨rfl, by rw [HF.out]⟩, ?_⟩
      exact ((hB2.setCell (Nat.le_refl _) _).setCell (Nat.le_refl _) _).setCell (Nat.le_refl _) _
end Go.Proofs.Ytlphcbgeagmopaa.OpR
