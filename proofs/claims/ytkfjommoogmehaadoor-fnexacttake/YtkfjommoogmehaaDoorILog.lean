/- Proves what impl.LogAdd tells. -/
import Derived.Test.YtkfjommoogmehaaDoorSLog
import Derived.Test.YtkfjommoogmehaaDoorIOps
import Derived.Test.YtkfjommoogmehaaDoorOnceW
import Derived.Test.YtkfjommoogmehaaDoorOwnW
namespace Go.Proofs.YtkfjommoogmehaaDoor.OpR
open Go.ChangeShapes Go.WideShapes Go.ChangeAt Go.RowKit
set_option linter.unusedVariables false

theorem right_sizes {o : OpV} (h : opRight o = true) : o.name.size ≤ 1048576 ∧ o.value.size ≤ 1048576 := by
  unfold opRight kindRight isIn at h
  simp only [Bool.and_eq_true, decide_eq_true_eq] at h
  obtain ⟨⟨⟨⟨⟨h1, h2⟩, h3, h4⟩, h5, h6⟩, h7⟩, h8⟩ := h
  have h9 := ((NameR.nmB_iff o.name).1 h7).2.1
  refine ⟨by omega, ?_⟩
  by_cases k1 : o.kind = 1
  · rw [if_pos k1] at h8
    simp only [Bool.and_eq_true, decide_eq_true_eq] at h8
    obtain ⟨_, h12⟩ := h8
    have e : o.value.toList = [] := by simpa using h12
    have e2 : o.value.data.toList = [] := by rw [← e, ByteArray.toList_eq]
    have hz : o.value.size = 0 := by have := congrArg List.length e2; simpa using this
    omega
  · rw [if_neg k1] at h8
    by_cases k2 : o.kind = 2
    · rw [if_pos k2] at h8
      simp only [Bool.and_eq_true, decide_eq_true_eq] at h8
      omega
    · rw [if_neg k2] at h8
      cases h8
/-- An answer of impl's: the row that is told is new, as long as it is told, or nil. -/
def OutIn (w w' : World) (e : Ending) (r : List OpV × Int × Int) : Prop := ∃ v, e = .returned (.agg #[v, .int .i64 r.2.1, .int .i64 r.2.2]) ∧ ((∃ g, v = .slice (some ⟨g, 0, none⟩) r.1.length r.1.length ∧ w.heap.size ≤ g ∧ OpsIn w' g 31 r.1) ∨ (v = .slice none 0 0 ∧ r.1 = [])) ∧ Below w.heap.size w w'
theorem OpsIn.setOther {w : World} {g b i : Nat} {T : TypeId} {l : List OpV} {x : Value} (h : OpsIn w g T l) (hne : g ≠ b) : OpsIn (w.setCell ⟨b, i, none⟩ x) g T l := by
  unfold OpsIn at *
  rw [heap_setCell_other _ _ _ _ hne]; exact h
theorem row_of {w : World} {base g cap : Nat} {T : TypeId} {l : List OpV} (h : w.ownsRow base T 7 (.slice (some ⟨g, 0, none⟩) l.length cap) l.length (flat l)) : RowB w g T (cap * 7) := by
  rcases h.2 with ⟨e, _⟩ | ⟨g', cap', cur, e, _, hg, _, _, hs, _⟩
  · simp at e
  · simp only [Value.slice.injEq, Option.some.injEq, Addr.mk.injEq] at e
    obtain ⟨⟨rfl, _⟩, _, rfl⟩ := e
    exact ⟨cur, hg, hs⟩
/-- What is told of what one of each stamp makes. -/
theorem res_of_none {l m s : List OpV} (hl : Strict l) (hs : s.Perm m) (ho : Orderd s) (h : once [] (mrg l s) = none) : addRes l m = ([], 0, 7) := res_none ((once_add hl hs ho).2 h)
theorem res_of_full {l m s k : List OpV} (hl : Strict l) (hs : s.Perm m) (ho : Orderd s) (h : once [] (mrg l s) = some k) (hk : 150 < k.length) : addRes l m = ([], 0, 9) := res_full ((once_add hl hs ho).1 k h) hk
theorem res_of_some {l m s k : List OpV} (hl : Strict l) (hs : s.Perm m) (ho : Orderd s) (h : once [] (mrg l s) = some k) (hk : ¬ 150 < k.length) : addRes l m = (k, (k.length : Int) - l.length, 0) := res_some ((once_add hl hs ho).1 k h) hk
theorem once_right {l m s k : List OpV} (hl : LogR l) (hm : OpsR m) (hs : s.Perm m) (ho : Orderd s) (h : once [] (mrg l s) = some k) : (∀ o ∈ k, o.name.size ≤ 1048576 ∧ o.value.size ≤ 1048576) ∧ k.length ≤ 300 := by
  have hS := rises_strict hl.2.2
  have h1 := (once_spec (mrg l s) [] (by simp [Strict]) (by simpa using mrg_ord (strict_ord hS) ho)).1 k h
  refine ⟨fun o ho => ?_, ?_⟩
  · have h2 := (h1.2 o).1 ho
    rw [List.nil_append, (mrg_perm l s).mem_iff, List.mem_append, hs.mem_iff] at h2
    rcases h2 with h2 | h2
    · obtain ⟨j, hj, rfl⟩ := List.getElem_of_mem h2
      exact right_sizes (hl.1 j hj)
    · obtain ⟨j, hj, rfl⟩ := List.getElem_of_mem h2
      exact right_sizes (hm.2.1 j hj)
  · have h2 := once_len (mrg l s) [] k h
    rw [mrg_len, hs.length_eq] at h2
    have := hl.2.1
    have := hm.1
    simp at h2
    omega

set_option maxRecDepth 100000 in
set_option maxHeartbeats 1000000 in
theorem iLogAdd_any (l m : List OpV) (ao1 ao2 : Option Addr) (cap1 cap2 : Nat) (w : World) (hl : l.length ≤ maxLen) (hm : m.length ≤ maxLen) (hc1 : l.length ≤ cap1) (hc2 : m.length ≤ cap2) (hA : OpsAt w ao1 l) (hC : OpsAt w ao2 m) (hS : Sized l) (hT : Sized m) :
    Calls Tryd.prog 62 #[.slice ao1 l.length cap1, .slice ao2 m.length cap2] w fun e w' => OutIn w w' e (logRes l m) := by
  have h1 := fun W (hW : Below w.heap.size w W) => iLog_any l ao1 cap1 W hl (hA.stays hW) hS
  have h2 := fun W (hW : Below w.heap.size w W) => iOps_any m ao2 cap2 W hm hc2 (hC.stays hW) hT
  have HA : Hid (OpsAt w ao1 l) := ⟨hA⟩
  have HC : Hid (OpsAt w ao2 m) := ⟨hC⟩
  have Hc1 : Hid (l.length ≤ cap1) := ⟨hc1⟩
  have Hc2 : Hid (m.length ≤ cap2) := ⟨hc2⟩
  clear hA hC hS hT hc1 hc2
  unfold maxLen at hl hm
  have hb0 : Below w.heap.size w (w.alloc (.cells #[.slice none 0 0, .int .i64 0, .int .i64 0] 52)) := (Below.refl _ _).alloc (Nat.le_refl _) _
  by_cases h400 : 400 < l.length ∨ 400 < m.length
  · have HF : Hid (logRes l m = ([], 0, 2)) := ⟨log_far h400⟩
    by_cases ha : 400 < l.length
    · go_enter Tryd.func62, Tryd.ntmps62
      go_wp2
      refine bodyPost_ret (v := .agg #[.slice none 0 0, .int .i64 0, .int .i64 2]) (by simp [results, Tryd.results62, go_sem]) rfl ⟨.slice none 0 0, by rw [HF.out], .inr ⟨rfl, by rw [HF.out]⟩, ?_⟩
      exact (Below.refl _ _).alloc (Nat.le_refl _) _
    · have hb : 400 < m.length := by omega
      clear h400
      go_enter Tryd.func62, Tryd.ntmps62
      go_wp2
      refine bodyPost_ret (v := .agg #[.slice none 0 0, .int .i64 0, .int .i64 2]) (by simp [results, Tryd.results62, go_sem]) rfl ⟨.slice none 0 0, by rw [HF.out], .inr ⟨rfl, by rw [HF.out]⟩, ?_⟩
      exact (Below.refl _ _).alloc (Nat.le_refl _) _
  · have ha : ¬ 400 < l.length := by omega
    have hb : ¬ 400 < m.length := by omega
    have HN : Hid (¬ (400 < l.length ∨ 400 < m.length)) := ⟨h400⟩
    clear h400
    have hres : ∀ W, Below (w.alloc (.cells #[.slice none 0 0, .int .i64 0, .int .i64 0] 52)).heap.size (w.alloc (.cells #[.slice none 0 0, .int .i64 0, .int .i64 0] 52)) W → W.heap[w.heap.size]? = some (.cells #[.slice none 0 0, .int .i64 0, .int .i64 0] 52 (0, 0)) := fun W hW => (hW.block w.heap.size (by simp)).trans (heap_alloc_new w _)
    cases hlr : logRight l
    · have HF : Hid (logRes l m = ([], 0, 1)) := ⟨log_form HN.out (fun hh => by rw [hlr] at hh; exact absurd hh.1 (by decide))⟩
      rw [hlr] at h1
      clear hlr h2
      go_enter Tryd.func62, Tryd.ntmps62
      go_wp2_with (first | (go_at_call 66; refine (h1 _ hb0).mono ?_; rintro e w1 ⟨rfl, hb1⟩; have hB1 := hb0.trans (hb1.mono (by simp)); obtain ⟨r0, r1, r2, f0, f1, f2, hrlt⟩ := cells3 (hres w1 hb1)))
      refine bodyPost_ret (v := .agg #[.slice none 0 0, .int .i64 0, .int .i64 1]) (by simp [results, Tryd.results62, go_sem, r0, r1, r2]) rfl ⟨.slice none 0 0, by rw [HF.out], .inr ⟨rfl, by rw [HF.out]⟩, ?_⟩
      exact ((hB1.setCell (Nat.le_refl _) _).setCell (Nat.le_refl _) _).setCell (Nat.le_refl _) _
    · rw [hlr] at h1
      have hL := log_of hlr
      have HLr : Hid (logRight l = true) := ⟨hlr⟩
      clear hlr
      cases hor : opsRight m
      · have HF : Hid (logRes l m = ([], 0, 1)) := ⟨log_form HN.out (fun hh => by rw [hor] at hh; exact absurd hh.2 (by decide))⟩
        rw [hor] at h2
        clear hor hL
        go_enter Tryd.func62, Tryd.ntmps62
        go_wp2_with (first | (go_at_call 66; refine (h1 _ hb0).mono ?_; rintro e w1 ⟨rfl, hb1⟩; have hB1 := hb0.trans (hb1.mono (by simp))) | (go_at_call 41; refine (h2 _ hB1).mono ?_; rintro e w2 ⟨rfl, hb2⟩; have hB2 := hB1.trans (hb2.mono hB1.size); obtain ⟨r0, r1, r2, f0, f1, f2, hrlt⟩ := cells3 (hres w2 (hb1.trans (hb2.mono hb1.size)))))
        refine bodyPost_ret (v := .agg #[.slice none 0 0, .int .i64 0, .int .i64 1]) (by simp [results, Tryd.results62, go_sem, r0, r1, r2]) rfl ⟨.slice none 0 0, by rw [HF.out], .inr ⟨rfl, by rw [HF.out]⟩, ?_⟩
        exact ((hB2.setCell (Nat.le_refl _) _).setCell (Nat.le_refl _) _).setCell (Nat.le_refl _) _
      · have HF : Hid (logRes l m = addRes l m) := ⟨log_add HN.out ⟨HLr.out, hor⟩⟩
        have hM := opsR_of hor
        have HL : Hid (LogR l) := ⟨hL⟩
        have HM : Hid (OpsR m) := ⟨hM⟩
        have hs := fun W (hW : Below w.heap.size w W) => sorted_any m.length m ao2 cap2 W (Nat.le_refl _) (by omega) Hc2.out (HC.out.stays hW)
        have hg := fun s (hs : s.length ≤ 400) (bo : Option Addr) (cb : Nat) (hcb : s.length ≤ cb) W (hW : Below w.heap.size w W) (hB : OpsAt W bo s) => merged_any l s ao1 bo cap1 cb W (by omega) hs Hc1.out hcb (HA.out.stays hW) hB
        have Hg : Hid (∀ s (hs : List.length s ≤ 400) (bo : Option Addr) (cb : Nat) (hcb : s.length ≤ cb) W (hW : Below w.heap.size w W) (hB : OpsAt W bo s), Calls Tryd.prog 70 #[.slice ao1 l.length cap1, .slice bo s.length cb, aheadFn] W fun e w' => ∃ v, e = .returned v ∧ OwnAt w' W.heap.size 31 v (mrg l s) ∧ Below W.heap.size W w') := ⟨hg⟩
        rw [hor] at h2
        unfold aheadFn at hs Hg
        clear hor hL hM hg
        go_enter Tryd.func62, Tryd.ntmps62
        go_wp2_with (first | (go_at_call 66; refine (h1 _ hb0).mono ?_; rintro e w1 ⟨rfl, hb1⟩; have hB1 := hb0.trans (hb1.mono (by simp)); clear h1) | (go_at_call 41; refine (h2 _ hB1).mono ?_; rintro e w2 ⟨rfl, hb2⟩; have hB2 := hB1.trans (hb2.mono hB1.size); have hK2 := hb1.trans (hb2.mono hb1.size); clear h2) | (go_at_call 59; refine (hs _ hB2).mono ?_; rintro e w3 ⟨v3, s3, rfl, hp3, ho3, hw3, hb3⟩; have hB3 := hB2.trans (hb3.mono hB2.size); have hK3 := hK2.trans (hb3.mono hK2.size); have hl3 : Hid (s3.length ≤ 400) := ⟨by rw [hp3.length_eq]; omega⟩; obtain ⟨a3, c3, rfl, hc3, hA3⟩ := owns_at hw3; clear hs hw3) | (go_at_call 70; refine (Hg.out s3 hl3.out a3 c3 hc3 _ hB3 hA3).mono ?_; rintro e w4 ⟨v4, rfl, hO4, hb4⟩; have hB4 := hB3.trans (hb4.mono hB3.size); have hK4 := hK3.trans (hb4.mono hK3.size); obtain ⟨g4, c4, rfl, hg4, hlt4, hcc4, hcm4, hA4⟩ := hO4.at; have hR4 := row_of hO4.1; have h5 := once_any (mrg l s3) g4 c4 w4 (by rw [mrg_len]; have := hl3.out; omega) hcc4 hR4 hA4; have H5 := Hid.mk h5; clear hA4 hR4 hO4 Hg h5))
        refine H5.out.mono ?_
        rintro e w5 ⟨hgr, hcase⟩
        have hs3 := hK3.size
        have hsa : (w.alloc (.cells #[.slice none 0 0, .int .i64 0, .int .i64 0] 52)).heap.size = w.heap.size + 1 := by simp
        have hB5 : Below w.heap.size w w5 := hB4.grown hgr hB4.size (fun j hj => by cases hj; omega)
        have hK5 := hK4.grown hgr hK4.size (fun j hj => by cases hj; omega)
        obtain ⟨r0, r1, r2, f0, f1, f2, hrlt⟩ := cells3 (hres w5 hK5)
        have HSt : Hid (Strict l) := ⟨rises_strict HL.out.2.2⟩
        clear hgr hs3 hsa H5
        rcases hcase with ⟨k, hk, rfl, hAk⟩ | ⟨hk, rfl⟩
        · have hR := once_right HL.out HM.out hp3 ho3 hk
          have hk300 := hR.2
          have HRk : Hid (∀ o ∈ k, o.name.size ≤ 1048576 ∧ o.value.size ≤ 1048576) := ⟨hR.1⟩
          have HAk : Hid (OpsAt w5 (some ⟨g4, 0, none⟩) k) := ⟨hAk⟩
          clear hR hAk
          by_cases hfull : 150 < k.length
          · have HRs : Hid (logRes l m = ([], 0, 9)) := ⟨HF.out.trans (res_of_full HSt.out hp3 ho3 hk hfull)⟩
            clear hk
            go_wp2
            refine bodyPost_ret (v := .agg #[.slice none 0 0, .int .i64 0, .int .i64 9]) (by simp [results, Tryd.results62, go_sem, r0, r1, r2]) rfl ⟨.slice none 0 0, by rw [HRs.out], .inr ⟨rfl, by rw [HRs.out]⟩, ?_⟩
            exact ((hB5.setCell (Nat.le_refl _) _).setCell (Nat.le_refl _) _).setCell (Nat.le_refl _) _
          · have HRs : Hid (logRes l m = (k, (k.length : Int) - l.length, 0)) := ⟨HF.out.trans (res_of_some HSt.out hp3 ho3 hk hfull)⟩
            have hw := own_any k (some ⟨g4, 0, none⟩) k.length w5 (by omega) HAk.out HRk.out
            have hwr : IntKind.i64.wrap ((k.length : Int) - (l.length : Int)) = (k.length : Int) - (l.length : Int) := Go.IntWalk.i64_in _ (by omega)
            clear hk
            go_wp2_with (first | (go_at_call 48; refine hw.mono ?_; rintro e w6 ⟨rfl, hO6, hb6⟩; have hB6 := hB5.trans (hb6.mono hB5.size); have HO6 : Hid (OpsIn w6 w5.heap.size 31 k) := ⟨hO6⟩; clear r0 r1 r2 f0 f1 f2 hrlt hO6; obtain ⟨r0, r1, r2, f0, f1, f2, hrlt⟩ := cells3 (hres w6 (hK5.trans (hb6.mono hK5.size)))))
            have hs5 : w.heap.size < w5.heap.size := Nat.lt_of_lt_of_le (by simp) hK5.size
            refine bodyPost_ret (v := .agg #[.slice (some ⟨w5.heap.size, 0, none⟩) k.length k.length, .int .i64 ((k.length : Int) - (l.length : Int)), .int .i64 0]) (by simp [results, Tryd.results62, go_sem, r0, r1, r2]) rfl ⟨.slice (some ⟨w5.heap.size, 0, none⟩) k.length k.length, by rw [HRs.out], .inl ⟨w5.heap.size, by rw [HRs.out], by omega, ?_⟩, ?_⟩
            · rw [HRs.out]
              exact ((HO6.out.setOther (by omega)).setOther (by omega)).setOther (by omega)
            · exact ((hB6.setCell (Nat.le_refl _) _).setCell (Nat.le_refl _) _).setCell (Nat.le_refl _) _
        · have HRs : Hid (logRes l m = ([], 0, 7)) := ⟨HF.out.trans (res_of_none HSt.out hp3 ho3 hk)⟩
          clear hk
          go_wp2
          refine bodyPost_ret (v := .agg #[.slice none 0 0, .int .i64 0, .int .i64 7]) (by simp [results, Tryd.results62, go_sem, r0, r1, r2]) rfl ⟨.slice none 0 0, by rw [HRs.out], .inr ⟨rfl, by rw [HRs.out]⟩, ?_⟩
          exact ((hB5.setCell (Nat.le_refl _) _).setCell (Nat.le_refl _) _).setCell (Nat.le_refl _) _
end Go.Proofs.YtkfjommoogmehaaDoor.OpR
