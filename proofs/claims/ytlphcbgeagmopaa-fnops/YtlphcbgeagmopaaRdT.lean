/- Proves what spec's reader tells of a text. -/
import Derived.Test.YtlphcbgeagmopaaRdS
namespace Go.Proofs.Ytlphcbgeagmopaa.OpR
open Go.ChangeShapes Go.WideShapes Go.ChangeAt Go.RowKit Go.ChangeMaps
open GetR (out num numOf dec)
set_option linter.unusedVariables false

/-- Spec's GetText at a place: without a fault, or with one. -/
theorem sTxt_cases (t : ByteArray) (a : Nat) (ht : t.size ≤ 8000) (ha : a ≤ 8000) : ∃ s x c, (∀ w, Calls Try.prog 139 #[.string t, .int .i64 (a : Int)] w fun e w' => e = .returned (GetR.txt s x c) ∧ Below w.heap.size w w') ∧ ((c = 0 ∧ ∃ b : Nat, x = (b : Int) ∧ rT t (some a) = (s, some b) ∧ b ≤ t.size) ∨ (c ≠ 0 ∧ rT t (some a) = (⟨#[]⟩, none))) := by
  have hG := fun W => sGet_nat t a W ht
  rcases sNum_cases t a ht ha with ⟨n, b, h1, h2, _, h3⟩ | ⟨c, h1, h2, h3⟩
  · rw [h2] at hG
    by_cases hn : n < 0 ∨ 8000 < n
    · refine ⟨_, _, _, fun w => GetR.sText_syn t a n b w hn hG, .inr ⟨by decide, ?_⟩⟩
      unfold rT
      rw [h1]
      exact if_pos (by omega)
    · by_cases hs : (t.size : Int) - n < (b : Int)
      · refine ⟨_, _, _, fun w => GetR.sText_short t a n b w ht (by omega) (by omega) (by omega) (by omega) hs hG, .inr ⟨by decide, ?_⟩⟩
        unfold rT
        rw [h1]
        exact if_pos (by omega)
      · refine ⟨_, _, _, fun w => GetR.sText_right t a n b w ht (by omega) (by omega) (by omega) (by omega) hs hG, .inl ⟨rfl, b + n.toNat, by omega, ?_, by omega⟩⟩
        unfold rT
        rw [h1]
        have e1 : ((b : Int)).toNat = b := by omega
        have e2 : ((b : Int) + n).toNat = b + n.toNat := by omega
        rw [e1, e2]
        exact if_neg (by omega)
  · rw [h3] at hG
    refine ⟨_, _, _, fun w => GetR.sText_fault t a c h1 w hG, .inr ⟨h1, ?_⟩⟩
    unfold rT
    rw [h2]
set_option maxRecDepth 100000 in
set_option maxHeartbeats 400000 in
theorem sRdText (t : ByteArray) (p : Nat) (st : Option Nat) (w : World) (ht : t.size ≤ 8000) (h : SRd w p t st) :
    Calls Try.prog 112 #[.pointer (some ⟨p, 0, none⟩)] w fun e w' => e = .returned (.string (rT t st).1) ∧ SRd w' p t (rT t st).2 ∧ w.grownBy w' (some p) := by
  obtain ⟨a, bad, hl, ha, hst⟩ := h
  have HL := Hid.mk hl
  have hplt : p < w.heap.size := (Array.getElem?_eq_some_iff.1 hl).1
  obtain ⟨c0, c1, c2, f0, f1, f2⟩ := cellsR hl
  clear hl
  go_enter Try.func112, Try.ntmps112
  obtain ⟨n, x, c, hG, hcase⟩ := sTxt_cases t a ht (by omega)
  have HC := Hid.mk hcase
  have HSt := Hid.mk hst
  clear hcase hst
  unfold GetR.txt at hG
  have hne1 := World.new_ne w ⟨p, 0, none⟩ c0
  have hne2 := World.new_ne w ⟨p, 1, none⟩ c1
  have hpn : ¬ w.heap.size = p := by omega
  have hpn2 : ¬ p = w.heap.size := by omega
  go_wp2
  go_region_held3 (fun w' => w'.cell? ⟨p, 0, none⟩ = some (.string t) ∧ w'.cell? ⟨p, 1, none⟩ = some (.int .i64 (a : Int))) (first | exact ⟨c0, c1⟩ | go_keep) (first | (go_at_call 139; refine (hG _).mono ?_; rintro e w1 ⟨rfl, hb1⟩; have hP1 : w1.heap[p]? = some (.cells #[.string t, .int .i64 (a : Int), .bool bad] 89 (0, 0)) := ((hb1.block p (by simp <;> omega)).trans (by first | exact HL.out | exact (Below.heap_alloc w _ p hplt).trans HL.out)); have HP1 := Hid.mk hP1; clear c0 c1 c2 f0 f1 f2; obtain ⟨c0, c1, c2, f0, f1, f2⟩ := cellsR hP1; clear hP1; try (have hX1 : w1.heap[w.heap.size]? = some (.cells #[.string ⟨#[]⟩, .int .i64 0, .int .i64 0] 170 (0, 0)) := (hb1.block w.heap.size (by simp)).trans (heap_alloc_new w _); have HX1 := Hid.mk hX1; obtain ⟨x0, x1, x2, y0, y1, y2⟩ := cellsR hX1; clear hX1)))
  · obtain ⟨X, hX⟩ : ∃ X, X = (w1.alloc (.cells #[.string n, .int .i64 x, .int .i64 c] 170)) := ⟨_, rfl⟩
    have hXp : X.heap[p]? = some (.cells #[.string t, .int .i64 (a : Int), .bool bad] 89 (0, 0)) := by rw [hX]; exact ((Below.heap_alloc w1 _ p (by have := hb1.size; simp at this; omega)).trans HP1.out)
    have hXv : X.heap[w1.heap.size]? = some (.cells #[.string n, .int .i64 x, .int .i64 c] 170 (0, 0)) := by rw [hX]; exact heap_alloc_new w1 _
    have hXb : Below w.heap.size w X := by rw [hX]; exact (((Below.refl _ _).drew.trans (hb1.mono (by simp))).alloc (by have := hb1.size; simpa using this) _)
    obtain ⟨V, hV⟩ : ∃ V, V = w1.heap.size := ⟨_, rfl⟩
    have hVp : ¬ V = p := by rw [hV]; have := hb1.size; simp at this; omega
    have hVp2 : ¬ p = V := fun e => hVp e.symm
    rw [← hX, ← hV]
    rw [← hV] at hXv
    have HXp := Hid.mk hXp
    clear hX hV hb1 HP1 hG c0 c1 c2 f0 f1 f2
    obtain ⟨c0, c1, c2, f0, f1, f2⟩ := cellsR hXp
    obtain ⟨x0, x1, x2, y0, y1, y2⟩ := cellsR hXv
    clear hXp hXv hne1 hne2 hpn hpn2
    cases bad
    · by_cases hc : c = 0
      · subst hc
        go_wp2
        go_ret
        rcases HC.out with ⟨_, b, hx, hr, hb⟩ | ⟨hne, _⟩
        · have hs : st = some a := HSt.out
          refine ⟨(congrArg (fun z => Ending.returned (.string z)) (congrArg Prod.fst hr).symm).trans (by rw [hs]), ⟨b, false, ?_, hb, ?_⟩, grown_trans' (grown_below' hXb) (grown_set' _ _ _ _)⟩
          · rw [← hx]; exact set1 HXp.out
          · rw [hs, hr]; rfl
        · exact absurd rfl hne
      · have hc0 : (c == 0) = false := by simpa using hc
        go_wp2
        go_ret
        rcases HC.out with ⟨hz, _⟩ | ⟨_, hr⟩
        · exact absurd hz hc
        · have hs : st = some a := HSt.out
          refine ⟨(congrArg (fun z => Ending.returned (.string z)) (congrArg Prod.fst hr).symm).trans (by rw [hs]), ⟨a, true, set2 HXp.out, ha, ?_⟩, grown_trans' (grown_below' hXb) (grown_set' _ _ _ _)⟩
          rw [hs, hr]; rfl
    · go_wp2
      go_ret
      have hs : st = none := HSt.out
      refine ⟨by rw [hs]; rfl, ⟨a, true, set2 HXp.out, ha, ?_⟩, grown_trans' (grown_below' hXb) (grown_set' _ _ _ _)⟩
      rw [hs]; rfl
  · obtain ⟨X, hX⟩ : ∃ X, X = (((w1.setCell ⟨w.heap.size, 0, none⟩ (.string n)).setCell ⟨w.heap.size, 1, none⟩ (.int .i64 x)).setCell ⟨w.heap.size, 2, none⟩ (.int .i64 c)) := ⟨_, rfl⟩
    have hXp : X.heap[p]? = some (.cells #[.string t, .int .i64 (a : Int), .bool bad] 89 (0, 0)) := by rw [hX]; exact ((((heap_setCell_other _ _ _ _ hpn2).trans ((heap_setCell_other _ _ _ _ hpn2).trans (heap_setCell_other _ _ _ _ hpn2)))).trans HP1.out)
    have hXv : X.heap[w.heap.size]? = some (.cells #[.string n, .int .i64 x, .int .i64 c] 170 (0, 0)) := by rw [hX]; exact three_set HX1.out
    have hXb : Below w.heap.size w X := by rw [hX]; exact ((((((Below.refl _ _).alloc (Nat.le_refl _) _).drew.trans (hb1.mono (by simp))).setCell (Nat.le_refl _) _).setCell (Nat.le_refl _) _).setCell (Nat.le_refl _) _)
    obtain ⟨V, hV⟩ : ∃ V, V = w.heap.size := ⟨_, rfl⟩
    have hVp : ¬ V = p := by rw [hV]; exact hpn
    have hVp2 : ¬ p = V := fun e => hVp e.symm
    rw [← hX, ← hV]
    rw [← hV] at hXv
    have HXp := Hid.mk hXp
    clear hX hV hb1 HP1 hG c0 c1 c2 f0 f1 f2 HX1 x0 x1 x2 y0 y1 y2
    obtain ⟨c0, c1, c2, f0, f1, f2⟩ := cellsR hXp
    obtain ⟨x0, x1, x2, y0, y1, y2⟩ := cellsR hXv
    clear hXp hXv hne1 hne2 hpn hpn2
    cases bad
    · by_cases hc : c = 0
      · subst hc
        go_wp2
        go_ret
        rcases HC.out with ⟨_, b, hx, hr, hb⟩ | ⟨hne, _⟩
        · have hs : st = some a := HSt.out
          refine ⟨(congrArg (fun z => Ending.returned (.string z)) (congrArg Prod.fst hr).symm).trans (by rw [hs]), ⟨b, false, ?_, hb, ?_⟩, grown_trans' (grown_below' hXb) (grown_set' _ _ _ _)⟩
          · rw [← hx]; exact set1 HXp.out
          · rw [hs, hr]; rfl
        · exact absurd rfl hne
      · have hc0 : (c == 0) = false := by simpa using hc
        go_wp2
        go_ret
        rcases HC.out with ⟨hz, _⟩ | ⟨_, hr⟩
        · exact absurd hz hc
        · have hs : st = some a := HSt.out
          refine ⟨(congrArg (fun z => Ending.returned (.string z)) (congrArg Prod.fst hr).symm).trans (by rw [hs]), ⟨a, true, set2 HXp.out, ha, ?_⟩, grown_trans' (grown_below' hXb) (grown_set' _ _ _ _)⟩
          rw [hs, hr]; rfl
    · go_wp2
      go_ret
      have hs : st = none := HSt.out
      refine ⟨by rw [hs]; rfl, ⟨a, true, set2 HXp.out, ha, ?_⟩, grown_trans' (grown_below' hXb) (grown_set' _ _ _ _)⟩
      rw [hs]; rfl
end Go.Proofs.Ytlphcbgeagmopaa.OpR
