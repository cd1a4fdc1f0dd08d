/- Proves what spec.LogAdd tells. -/
import Derived.Test.YtlphcbgeagmopaaAddW
namespace Go.Proofs.Ytlphcbgeagmopaa.OpR
open Go.ChangeShapes Go.WideShapes Go.ChangeAt Go.RowKit
set_option linter.unusedVariables false

/-- What LogAdd tells: the ops, how many are new, the code. -/
def logRes (l m : List OpV) : List OpV × Int × Int :=
  if 400 < l.length ∨ 400 < m.length then ([], 0, 2) else if logRight l = true ∧ opsRight m = true then addRes l m else ([], 0, 1)
theorem log_far {l m : List OpV} (h : 400 < l.length ∨ 400 < m.length) : logRes l m = ([], 0, 2) := if_pos h
theorem log_form {l m : List OpV} (h : ¬ (400 < l.length ∨ 400 < m.length)) (h2 : ¬ (logRight l = true ∧ opsRight m = true)) : logRes l m = ([], 0, 1) := (if_neg h).trans (if_neg h2)
theorem log_add {l m : List OpV} (h : ¬ (400 < l.length ∨ 400 < m.length)) (h2 : logRight l = true ∧ opsRight m = true) : logRes l m = addRes l m := (if_neg h).trans (if_pos h2)
theorem log_of {l : List OpV} (h : logRight l = true) : LogR l := by
  refine Classical.byContradiction fun hn => ?_
  rw [log_no hn] at h
  cases h
theorem opsR_of {l : List OpV} (h : opsRight l = true) : OpsR l := by
  refine Classical.byContradiction fun hn => ?_
  rw [ops_no hn] at h
  cases h
/-- An answer of ops: the row that is told is the call's own, or nil. -/
def OutAt (w w' : World) (e : Ending) (r : List OpV × Int × Int) : Prop := ∃ v, e = .returned (.agg #[v, .int .i64 r.2.1, .int .i64 r.2.2]) ∧ OpsOf w' w.heap.size 40 v r.1 ∧ Below w.heap.size w w'
theorem OpsOf.base {w : World} {base base' : Nat} {T : TypeId} {v : Value} {l : List OpV} (h : OpsOf w base T v l) (hb : base' ≤ base) : OpsOf w base' T v l := by
  rcases h with ⟨h1, h2⟩ | h
  · exact .inl ⟨owns_base h1 hb, h2⟩
  · exact .inr h

theorem OpsOf.at {w : World} {base : Nat} {T : TypeId} {v : Value} {l : List OpV} (h : OpsOf w base T v l) : ∃ ao c, v = .slice ao l.length c ∧ l.length ≤ c ∧ OpsAt w ao l := by
  rcases h with h | ⟨rfl, rfl⟩
  · obtain ⟨g, cap, e, _, _, h1, _, h2⟩ := h.at
    exact ⟨_, cap, e, h1, h2⟩
  · exact ⟨none, 0, rfl, Nat.le_refl _, fun j hj => absurd hj (by simp)⟩
theorem OpsOf.setCell {w : World} {base : Nat} {T : TypeId} {v : Value} {l : List OpV} (h : OpsOf w base T v l) {b i : Nat} {x : Value} (hb : b < base) : OpsOf (w.setCell ⟨b, i, none⟩ x) base T v l := by
  rcases h with h | h
  · exact .inl (h.setCell hb)
  · exact .inr h

set_option maxRecDepth 100000 in
set_option maxHeartbeats 400000 in
theorem sLog_any (l m : List OpV) (ao1 ao2 : Option Addr) (cap1 cap2 : Nat) (w : World) (hl : l.length ≤ maxLen) (hm : m.length ≤ maxLen) (hA : OpsAt w ao1 l) (hC : OpsAt w ao2 m) (hS : Sized l) (hT : Sized m) :
    Calls Try.prog 8 #[.slice ao1 l.length cap1, .slice ao2 m.length cap2] w fun e w' => OutAt w w' e (logRes l m) := by
  have h1 := fun W (hW : Below w.heap.size w W) => log_any l ao1 cap1 W hl (hA.stays hW) hS
  have h2 := fun W (hW : Below w.heap.size w W) => sOps_any m ao2 cap2 W hm (hC.stays hW) hT
  have h3 := fun hl hm W (hW : Below w.heap.size w W) => sAdd_any l m ao1 ao2 cap1 cap2 W hl hm (hA.stays hW) (hC.stays hW)
  have H3 : Hid (∀ (_ : l.length ≤ 150) (_ : m.length ≤ 150) W (hW : Below w.heap.size w W), Calls Try.prog 51 #[.slice ao1 l.length cap1, .slice ao2 m.length cap2] W fun e w' => ∃ v, e = .returned (.agg #[v, .int .i64 (addRes l m).2.1, .int .i64 (addRes l m).2.2]) ∧ OpsOf w' (W.heap.size + 1) 40 v (addRes l m).1 ∧ Below W.heap.size W w') := ⟨h3⟩
  clear h3 hA hC hS hT
  unfold maxLen at hl hm
  have hb0 : Below w.heap.size w (w.alloc (.cells #[.slice none 0 0, .int .i64 0, .int .i64 0] 27)) := (Below.refl _ _).alloc (Nat.le_refl _) _
  by_cases h400 : 400 < l.length ∨ 400 < m.length
  · have HF : Hid (logRes l m = ([], 0, 2)) := ⟨log_far h400⟩
    by_cases ha : 400 < l.length
    · go_enter Try.func8, Try.ntmps8
      go_wp2
      refine bodyPost_ret (v := .agg #[.slice none 0 0, .int .i64 0, .int .i64 2]) (by simp [results, Try.results8, go_sem]) rfl ⟨.slice none 0 0, by rw [HF.out], .inr ⟨rfl, by rw [HF.out]⟩, ?_⟩
      exact (Below.refl _ _).alloc (Nat.le_refl _) _
    · have hb : 400 < m.length := by omega
      clear h400
      go_enter Try.func8, Try.ntmps8
      go_wp2
      refine bodyPost_ret (v := .agg #[.slice none 0 0, .int .i64 0, .int .i64 2]) (by simp [results, Try.results8, go_sem]) rfl ⟨.slice none 0 0, by rw [HF.out], .inr ⟨rfl, by rw [HF.out]⟩, ?_⟩
      exact (Below.refl _ _).alloc (Nat.le_refl _) _
  · have ha : ¬ 400 < l.length := by omega
    have hb : ¬ 400 < m.length := by omega
    have HN : Hid (¬ (400 < l.length ∨ 400 < m.length)) := ⟨h400⟩
    clear h400
    have hres : ∀ W, Below (w.alloc (.cells #[.slice none 0 0, .int .i64 0, .int .i64 0] 27)).heap.size (w.alloc (.cells #[.slice none 0 0, .int .i64 0, .int .i64 0] 27)) W → W.heap[w.heap.size]? = some (.cells #[.slice none 0 0, .int .i64 0, .int .i64 0] 27 (0, 0)) := fun W hW => (hW.block w.heap.size (by simp)).trans (heap_alloc_new w _)
    cases hlr : logRight l
    · have HF : Hid (logRes l m = ([], 0, 1)) := ⟨log_form HN.out (fun hh => by rw [hlr] at hh; exact absurd hh.1 (by decide))⟩
      rw [hlr] at h1
      clear hlr h2 H3
      go_enter Try.func8, Try.ntmps8
      go_wp2_with (first | (go_at_call 50; refine (h1 _ hb0).mono ?_; rintro e w1 ⟨rfl, hb1⟩; have hB1 := hb0.trans (hb1.mono (by simp)); obtain ⟨r0, r1, r2, f0, f1, f2, hrlt⟩ := cells3 (hres w1 hb1)))
      refine bodyPost_ret (v := .agg #[.slice none 0 0, .int .i64 0, .int .i64 1]) (by simp [results, Try.results8, go_sem, r0, r1, r2]) rfl ⟨.slice none 0 0, by rw [HF.out], .inr ⟨rfl, by rw [HF.out]⟩, ?_⟩
      exact ((hB1.setCell (Nat.le_refl _) _).setCell (Nat.le_refl _) _).setCell (Nat.le_refl _) _
    · rw [hlr] at h1
      have hL := log_of hlr
      have HLr : Hid (logRight l = true) := ⟨hlr⟩
      clear hlr
      cases hor : opsRight m
      · have HF : Hid (logRes l m = ([], 0, 1)) := ⟨log_form HN.out (fun hh => by rw [hor] at hh; exact absurd hh.2 (by decide))⟩
        rw [hor] at h2
        clear hor H3 hL
        go_enter Try.func8, Try.ntmps8
        go_wp2_with (first | (go_at_call 50; refine (h1 _ hb0).mono ?_; rintro e w1 ⟨rfl, hb1⟩; have hB1 := hb0.trans (hb1.mono (by simp))) | (go_at_call 13; refine (h2 _ hB1).mono ?_; rintro e w2 ⟨rfl, hb2⟩; have hB2 := hB1.trans (hb2.mono hB1.size); obtain ⟨r0, r1, r2, f0, f1, f2, hrlt⟩ := cells3 (hres w2 (hb1.trans (hb2.mono hb1.size)))))
        refine bodyPost_ret (v := .agg #[.slice none 0 0, .int .i64 0, .int .i64 1]) (by simp [results, Try.results8, go_sem, r0, r1, r2]) rfl ⟨.slice none 0 0, by rw [HF.out], .inr ⟨rfl, by rw [HF.out]⟩, ?_⟩
        exact ((hB2.setCell (Nat.le_refl _) _).setCell (Nat.le_refl _) _).setCell (Nat.le_refl _) _
      · have HF : Hid (logRes l m = addRes l m) := ⟨log_add HN.out ⟨HLr.out, hor⟩⟩
        have h3 := H3.out hL.2.1 (opsR_of hor).1
        rw [hor] at h2
        obtain ⟨r, hr⟩ : ∃ r, r = addRes l m := ⟨_, rfl⟩
        have HR : Hid (r = addRes l m) := ⟨hr⟩
        rw [← hr] at h3
        clear hor hL H3 hr
        go_enter Try.func8, Try.ntmps8
        go_wp2_with (first | (go_at_call 50; refine (h1 _ hb0).mono ?_; rintro e w1 ⟨rfl, hb1⟩; have hB1 := hb0.trans (hb1.mono (by simp))) | (go_at_call 13; refine (h2 _ hB1).mono ?_; rintro e w2 ⟨rfl, hb2⟩; have hB2 := hB1.trans (hb2.mono hB1.size)) | (go_at_call 51; refine (h3 _ hB2).mono ?_; rintro e w3 ⟨v, rfl, hO, hb3⟩; have hB3 := hB2.trans (hb3.mono hB2.size); obtain ⟨r0, r1, r2, f0, f1, f2, hrlt⟩ := cells3 (hres w3 ((hb1.trans (hb2.mono hb1.size)).trans (hb3.mono (by have e1 := hb1.size; have e2 := hb2.size; omega)))); have HO : Hid (OpsOf w3 (w2.heap.size + 1) 40 v r.1) := ⟨hO⟩; clear hO; obtain ⟨ao', c', rfl, hc', hA'⟩ := HO.out.at; clear hA'))
        have hs2 := hB2.size
        refine bodyPost_ret (v := .agg #[.slice ao' r.1.length c', .int .i64 r.2.1, .int .i64 r.2.2]) (by simp [results, Try.results8, go_sem, r0, r1, r2]) rfl ⟨.slice ao' r.1.length c', by rw [HF.out, HR.out], ?_, ?_⟩
        · rw [HF.out, ← HR.out]
          refine ((OpsOf.setCell ?_ (by omega : w.heap.size < w2.heap.size + 1)).setCell (by omega)).setCell (by omega) |>.base (by omega)
          exact HO.out
        · exact ((hB3.setCell (Nat.le_refl _) _).setCell (Nat.le_refl _) _).setCell (Nat.le_refl _) _
end Go.Proofs.Ytlphcbgeagmopaa.OpR
