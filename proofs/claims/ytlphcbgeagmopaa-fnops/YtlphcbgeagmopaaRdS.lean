/- Proves what spec's reader of ops tells: numbers and texts one behind the other, up to the first thing that is wrong. -/
import Derived.Test.YtlphcbgeagmopaaRdM
import Derived.Test.YtlphcbgeagmopaaTxtSB
import Derived.Test.YtlphcbgeagmopaaRowO
namespace Go.Proofs.Ytlphcbgeagmopaa.OpR
open Go.ChangeShapes Go.WideShapes Go.ChangeAt Go.RowKit Go.ChangeMaps
open GetR (out num numOf dec)
set_option linter.unusedVariables false

/-- Spec's GetNum at a place. -/
theorem sGet_nat (t : ByteArray) (a : Nat) (w : World) (ht : t.size ≤ 8000) :
    Calls Try.prog 138 #[.string t, .int .i64 (a : Int)] w fun e w' => e = .returned (numOf (out t a)) ∧ Below w.heap.size w w' := by
  by_cases h : a < t.size
  · exact GetR.sGet_in t a w ht h
  · have e : numOf (out t a) = num 0 0 4 := by
      rw [show out t a = (0, 0, 4) from GetR.out_short (by omega)]
      rfl
    rw [e]
    exact GetR.sGet_past t a w ht (by omega) (by omega)
/-- What is read of a number: without a fault, or with one. -/
theorem sNum_cases (t : ByteArray) (a : Nat) (ht : t.size ≤ 8000) (ha : a ≤ 8000) : (∃ (n : Int) (b : Nat), rN t (some a) = (n, some b) ∧ numOf (out t a) = num n b 0 ∧ inI n ∧ b ≤ t.size) ∨ (∃ c, c ≠ 0 ∧ rN t (some a) = (0, none) ∧ numOf (out t a) = num 0 0 c) := by
  obtain ⟨⟨u, x, c⟩, ho⟩ : ∃ o, out t a = o := ⟨_, rfl⟩
  by_cases hc : c = 0
  · subst hc
    have hr := GetR.out_rng t a ha
    rw [ho] at hr
    obtain ⟨h1, h2, h3, h4, _⟩ := hr
    simp only at h1 h2 h3 h4
    refine .inl ⟨dec u, x.toNat, ?_, ?_, GetR.dec_rng u h1 h2, by omega⟩
    · rw [rN_some, ho]; rfl
    · rw [ho]
      show num (dec u) x 0 = _
      rw [Int.toNat_of_nonneg h3]
  · refine .inr ⟨c, hc, ?_, ?_⟩
    · rw [rN_some, ho]; exact if_neg hc
    · rw [ho]; exact if_neg hc
/-- Spec's reader in memory. -/
def SRd (w : World) (p : Nat) (t : ByteArray) (st : Option Nat) : Prop :=
  ∃ (a : Nat) (bad : Bool), w.heap[p]? = some (.cells #[.string t, .int .i64 (a : Int), .bool bad] 89 (0, 0)) ∧ a ≤ t.size ∧ (if bad then st = none else st = some a)
theorem SRd.stays {w w' : World} {p : Nat} {t : ByteArray} {st : Option Nat} (h : SRd w p t st) (hb : Below w.heap.size w w') : SRd w' p t st := by
  obtain ⟨a, bad, h1, h2, h3⟩ := h
  exact ⟨a, bad, (hb.block p (Array.getElem?_eq_some_iff.1 h1).1).trans h1, h2, h3⟩
theorem cellsR {w : World} {g : Nat} {v0 v1 v2 : Value} {T : TypeId} (h : w.heap[g]? = some (.cells #[v0, v1, v2] T (0, 0))) :
    w.cell? ⟨g, 0, none⟩ = some v0 ∧ w.cell? ⟨g, 1, none⟩ = some v1 ∧ w.cell? ⟨g, 2, none⟩ = some v2 ∧ w.frozen? ⟨g, 0, none⟩ = false ∧ w.frozen? ⟨g, 1, none⟩ = false ∧ w.frozen? ⟨g, 2, none⟩ = false := by
  refine ⟨by simp [World.cell?, h], by simp [World.cell?, h], by simp [World.cell?, h], by simp [World.frozen?, h], by simp [World.frozen?, h], by simp [World.frozen?, h]⟩
theorem set1 {w : World} {p : Nat} {v0 v1 v2 v : Value} {T : TypeId} (h : w.heap[p]? = some (.cells #[v0, v1, v2] T (0, 0))) : (w.setCell ⟨p, 1, none⟩ v).heap[p]? = some (.cells #[v0, v, v2] T (0, 0)) := (set_block h 1 v).trans rfl
theorem set2 {w : World} {p : Nat} {v0 v1 v2 v : Value} {T : TypeId} (h : w.heap[p]? = some (.cells #[v0, v1, v2] T (0, 0))) : (w.setCell ⟨p, 2, none⟩ v).heap[p]? = some (.cells #[v0, v1, v] T (0, 0)) := (set_block h 2 v).trans rfl
theorem three_set {w : World} {g : Nat} {v0 v1 v2 u0 u1 u2 : Value} {T : TypeId} (h : w.heap[g]? = some (.cells #[v0, v1, v2] T (0, 0))) : (((w.setCell ⟨g, 0, none⟩ u0).setCell ⟨g, 1, none⟩ u1).setCell ⟨g, 2, none⟩ u2).heap[g]? = some (.cells #[u0, u1, u2] T (0, 0)) :=
  (set_block (set_block (set_block h 0 u0) 1 u1) 2 u2).trans rfl
theorem grown_set' (W : World) (b i : Nat) (v : Value) : W.grownBy (W.setCell ⟨b, i, none⟩ v) (some b) :=
  ⟨rfl, rfl, rfl, by simp, fun k hk hne => heap_setCell_other W ⟨b, i, none⟩ k v (fun e => hne (by rw [e]))⟩
theorem grown_trans' {a b c : World} {r : Option Nat} (h : a.grownBy b r) (k : b.grownBy c r) : a.grownBy c r :=
  ⟨k.os.trans h.os, k.tape.trans h.tape, k.output.trans h.output, Nat.le_trans h.size k.size, fun i hi hn => (k.block i (Nat.lt_of_lt_of_le hi h.size) hn).trans (h.block i hi hn)⟩
theorem grown_below' {a b : World} {r : Option Nat} (h : Below a.heap.size a b) : a.grownBy b r := ⟨h.os, h.tape, h.output, h.size, fun i hi _ => h.block i hi⟩

set_option maxRecDepth 100000 in
set_option maxHeartbeats 400000 in
theorem sRdNum (t : ByteArray) (p : Nat) (st : Option Nat) (w : World) (ht : t.size ≤ 8000) (h : SRd w p t st) :
    Calls Try.prog 111 #[.pointer (some ⟨p, 0, none⟩)] w fun e w' => e = .returned (.int .i64 (rN t st).1) ∧ SRd w' p t (rN t st).2 ∧ w.grownBy w' (some p) := by
  obtain ⟨a, bad, hl, ha, hst⟩ := h
  have HL := Hid.mk hl
  have hplt : p < w.heap.size := (Array.getElem?_eq_some_iff.1 hl).1
  obtain ⟨c0, c1, c2, f0, f1, f2⟩ := cellsR hl
  have hG := fun W => sGet_nat t a W ht
  clear hl
  go_enter Try.func111, Try.ntmps111
  obtain ⟨n, x, c, he, hcase⟩ : ∃ n x c, numOf (out t a) = num n x c ∧ ((c = 0 ∧ ∃ b : Nat, x = (b : Int) ∧ rN t (some a) = (n, some b) ∧ b ≤ t.size) ∨ (c ≠ 0 ∧ rN t (some a) = (0, none))) := by
    rcases sNum_cases t a ht (by omega) with ⟨n, b, h1, h2, _, h3⟩ | ⟨c, h1, h2, h3⟩
    · exact ⟨n, b, 0, h2, .inl ⟨rfl, b, rfl, h1, h3⟩⟩
    · exact ⟨0, 0, c, h3, .inr ⟨h1, h2⟩⟩
  have HC := Hid.mk hcase
  have HSt := Hid.mk hst
  clear hcase hst
  rw [he] at hG
  unfold num at hG
  have hne1 := World.new_ne w ⟨p, 0, none⟩ c0
  have hne2 := World.new_ne w ⟨p, 1, none⟩ c1
  have hpn : ¬ w.heap.size = p := by omega
  have hpn2 : ¬ p = w.heap.size := by omega
  go_wp2
  go_region_held3 (fun w' => w'.cell? ⟨p, 0, none⟩ = some (.string t) ∧ w'.cell? ⟨p, 1, none⟩ = some (.int .i64 (a : Int))) (first | exact ⟨c0, c1⟩ | go_keep) (first | (go_at_call 138; refine (hG _).mono ?_; rintro e w1 ⟨rfl, hb1⟩; have hP1 : w1.heap[p]? = some (.cells #[.string t, .int .i64 (a : Int), .bool bad] 89 (0, 0)) := ((hb1.block p (by simp <;> omega)).trans (by first | exact HL.out | exact (Below.heap_alloc w _ p hplt).trans HL.out)); have HP1 := Hid.mk hP1; clear c0 c1 c2 f0 f1 f2; obtain ⟨c0, c1, c2, f0, f1, f2⟩ := cellsR hP1; clear hP1; try (have hX1 : w1.heap[w.heap.size]? = some (.cells #[.int .i64 0, .int .i64 0, .int .i64 0] 167 (0, 0)) := (hb1.block w.heap.size (by simp)).trans (heap_alloc_new w _); have HX1 := Hid.mk hX1; obtain ⟨x0, x1, x2, y0, y1, y2⟩ := cellsR hX1; clear hX1)))
  · obtain ⟨X, hX⟩ : ∃ X, X = (w1.alloc (.cells #[.int .i64 n, .int .i64 x, .int .i64 c] 167)) := ⟨_, rfl⟩
    have hXp : X.heap[p]? = some (.cells #[.string t, .int .i64 (a : Int), .bool bad] 89 (0, 0)) := by rw [hX]; exact ((Below.heap_alloc w1 _ p (by have := hb1.size; simp at this; omega)).trans HP1.out)
    have hXv : X.heap[w1.heap.size]? = some (.cells #[.int .i64 n, .int .i64 x, .int .i64 c] 167 (0, 0)) := by rw [hX]; exact heap_alloc_new w1 _
    have hXb : Below w.heap.size w X := by rw [hX]; exact (((Below.refl _ _).drew.trans (hb1.mono (by simp))).alloc (by have := hb1.size; simpa using this) _)
    obtain ⟨V, hV⟩ : ∃ V, V = w1.heap.size := ⟨_, rfl⟩
    have hVp : ¬ V = p := by rw [hV]; have := hb1.size; simp at this; omega
    have hVp2 : ¬ p = V := fun e => hVp e.symm
    rw [← hX, ← hV]
    rw [← hV] at hXv
    have HXp := Hid.mk hXp
    clear hX hV hb1 HP1 hG he c0 c1 c2 f0 f1 f2
    obtain ⟨c0, c1, c2, f0, f1, f2⟩ := cellsR hXp
    obtain ⟨x0, x1, x2, y0, y1, y2⟩ := cellsR hXv
    clear hXp hXv hne1 hne2 hpn hpn2
    cases bad
    · by_cases hc : c = 0
      · subst hc
        go_wp2
        go_ret
        rcases HC.out with ⟨_, b, hx, hr, hb⟩ | ⟨hne, _⟩
        · have hs : st = some a := HSt.out
          refine ⟨(congrArg (fun z => Ending.returned (.int .i64 z)) (congrArg Prod.fst hr).symm).trans (by rw [hs]), ⟨b, false, ?_, hb, ?_⟩, grown_trans' (grown_below' hXb) (grown_set' _ _ _ _)⟩
          · rw [← hx]; exact set1 HXp.out
          · rw [hs, hr]; rfl
        · exact absurd rfl hne
      · have hc0 : (c == 0) = false := by simpa using hc
        go_wp2
        go_ret
        rcases HC.out with ⟨hz, _⟩ | ⟨_, hr⟩
        · exact absurd hz hc
        · have hs : st = some a := HSt.out
          refine ⟨(congrArg (fun z => Ending.returned (.int .i64 z)) (congrArg Prod.fst hr).symm).trans (by rw [hs]), ⟨a, true, set2 HXp.out, ha, ?_⟩, grown_trans' (grown_below' hXb) (grown_set' _ _ _ _)⟩
          rw [hs, hr]; rfl
    · go_wp2
      go_ret
      have hs : st = none := HSt.out
      refine ⟨by rw [hs]; rfl, ⟨a, true, set2 HXp.out, ha, ?_⟩, grown_trans' (grown_below' hXb) (grown_set' _ _ _ _)⟩
      rw [hs]; rfl
  · obtain ⟨X, hX⟩ : ∃ X, X = (((w1.setCell ⟨w.heap.size, 0, none⟩ (.int .i64 n)).setCell ⟨w.heap.size, 1, none⟩ (.int .i64 x)).setCell ⟨w.heap.size, 2, none⟩ (.int .i64 c)) := ⟨_, rfl⟩
    have hXp : X.heap[p]? = some (.cells #[.string t, .int .i64 (a : Int), .bool bad] 89 (0, 0)) := by rw [hX]; exact ((((heap_setCell_other _ _ _ _ hpn2).trans ((heap_setCell_other _ _ _ _ hpn2).trans (heap_setCell_other _ _ _ _ hpn2)))).trans HP1.out)
    have hXv : X.heap[w.heap.size]? = some (.cells #[.int .i64 n, .int .i64 x, .int .i64 c] 167 (0, 0)) := by rw [hX]; exact three_set HX1.out
    have hXb : Below w.heap.size w X := by rw [hX]; exact ((((((Below.refl _ _).alloc (Nat.le_refl _) _).drew.trans (hb1.mono (by simp))).setCell (Nat.le_refl _) _).setCell (Nat.le_refl _) _).setCell (Nat.le_refl _) _)
    obtain ⟨V, hV⟩ : ∃ V, V = w.heap.size := ⟨_, rfl⟩
    have hVp : ¬ V = p := by rw [hV]; exact hpn
    have hVp2 : ¬ p = V := fun e => hVp e.symm
    rw [← hX, ← hV]
    rw [← hV] at hXv
    have HXp := Hid.mk hXp
    clear hX hV hb1 HP1 hG he c0 c1 c2 f0 f1 f2 HX1 x0 x1 x2 y0 y1 y2
    obtain ⟨c0, c1, c2, f0, f1, f2⟩ := cellsR hXp
    obtain ⟨x0, x1, x2, y0, y1, y2⟩ := cellsR hXv
    clear hXp hXv hne1 hne2 hpn hpn2
    cases bad
    · by_cases hc : c = 0
      · subst hc
        go_wp2
        go_ret
        rcases HC.out with ⟨_, b, hx, hr, hb⟩ | ⟨hne, _⟩
        · have hs : st = some a := HSt.out
          refine ⟨(congrArg (fun z => Ending.returned (.int .i64 z)) (congrArg Prod.fst hr).symm).trans (by rw [hs]), ⟨b, false, ?_, hb, ?_⟩, grown_trans' (grown_below' hXb) (grown_set' _ _ _ _)⟩
          · rw [← hx]; exact set1 HXp.out
          · rw [hs, hr]; rfl
        · exact absurd rfl hne
      · have hc0 : (c == 0) = false := by simpa using hc
        go_wp2
        go_ret
        rcases HC.out with ⟨hz, _⟩ | ⟨_, hr⟩
        · exact absurd hz hc
        · have hs : st = some a := HSt.out
          refine ⟨(congrArg (fun z => Ending.returned (.int .i64 z)) (congrArg Prod.fst hr).symm).trans (by rw [hs]), ⟨a, true, set2 HXp.out, ha, ?_⟩, grown_trans' (grown_below' hXb) (grown_set' _ _ _ _)⟩
          rw [hs, hr]; rfl
    · go_wp2
      go_ret
      have hs : st = none := HSt.out
      refine ⟨by rw [hs]; rfl, ⟨a, true, set2 HXp.out, ha, ?_⟩, grown_trans' (grown_below' hXb) (grown_set' _ _ _ _)⟩
      rw [hs]; rfl
end Go.Proofs.Ytlphcbgeagmopaa.OpR
