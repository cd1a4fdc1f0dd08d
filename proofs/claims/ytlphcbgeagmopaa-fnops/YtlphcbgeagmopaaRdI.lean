/- Proves what impl's reader tells of numbers and texts. -/
import Derived.Test.YtlphcbgeagmopaaRdS
import Derived.Test.YtlphcbgeagmopaaTxtIB
namespace Go.Proofs.Ytlphcbgeagmopaa.OpR
open Go.ChangeShapes Go.WideShapes Go.ChangeAt Go.RowKit Go.ChangeMaps
open GetR (out num numOf dec)
set_option linter.unusedVariables false

def wrongV (c : Int) : Value := .iface 185 (.agg #[.int .i64 c])
/-- Impl's readNum at a place: without a fault, or with one. -/
theorem iNum_cases (t : ByteArray) (a : Nat) (ht : t.size ≤ 8000) (ha : a ≤ 8000) : ∃ (n x : Int) (err : Value), (∀ w, Calls Try.prog 136 #[.string t, .int .i64 (a : Int)] w fun e w' => e = .returned (.tuple #[.int .i64 n, .int .i64 x, err]) ∧ w' = w) ∧ ((err = .nilIface ∧ ∃ b : Nat, x = (b : Int) ∧ rN t (some a) = (n, some b) ∧ b ≤ t.size) ∨ (∃ c, err = wrongV c ∧ n = 0 ∧ x = 0 ∧ rN t (some a) = (0, none))) := by
  by_cases hl : a < t.size
  · obtain ⟨⟨u, x, c⟩, ho⟩ : ∃ o, out t a = o := ⟨_, rfl⟩
    by_cases hc : c = 0
    · subst hc
      have hr := GetR.out_rng t a ha
      rw [ho] at hr
      obtain ⟨h1, h2, h3, h4, _⟩ := hr
      simp only at h1 h2 h3 h4
      refine ⟨dec u, x, .nilIface, fun w => GetR.num_right t a w ht hl u x ho, .inl ⟨rfl, x.toNat, (Int.toNat_of_nonneg h3).symm, ?_, by omega⟩⟩
      rw [rN_some, ho]; rfl
    · obtain ⟨rfl, rfl⟩ := GetR.out_zero t a ho hc
      refine ⟨0, 0, wrongV c, fun w => GetR.num_wrong t a w ht hl c hc ho, .inr ⟨c, rfl, rfl, rfl, ?_⟩⟩
      rw [rN_some, ho]; exact if_neg hc
  · refine ⟨0, 0, wrongV 4, fun w => GetR.num_past t a w ht (by omega) (by omega), .inr ⟨4, rfl, rfl, rfl, ?_⟩⟩
    rw [rN_some, show out t a = (0, 0, 4) from GetR.out_short (by omega)]; rfl
/-- Impl's readText at a place. -/
theorem iTxt_cases (t : ByteArray) (a : Nat) (ht : t.size ≤ 8000) (ha : a ≤ 8000) : ∃ (s : ByteArray) (x : Int) (err : Value), (∀ w, Calls Try.prog 153 #[.string t, .int .i64 (a : Int)] w fun e w' => e = .returned (.tuple #[.string s, .int .i64 x, err]) ∧ Below w.heap.size w w') ∧ ((err = .nilIface ∧ ∃ b : Nat, x = (b : Int) ∧ rT t (some a) = (s, some b) ∧ b ≤ t.size) ∨ (∃ c, err = wrongV c ∧ s = ⟨#[]⟩ ∧ x = 0 ∧ rT t (some a) = (⟨#[]⟩, none))) := by
  obtain ⟨n, x, err, hR, hc⟩ := iNum_cases t a ht ha
  rcases hc with ⟨rfl, b, rfl, h1, h3⟩ | ⟨c, rfl, rfl, rfl, h1⟩
  · by_cases hn : n < 0 ∨ 8000 < n
    · refine ⟨_, _, _, fun w => GetR.rText_syn t a n b w hn hR, .inr ⟨3, rfl, rfl, rfl, ?_⟩⟩
      unfold rT
      rw [h1]
      exact if_pos (by omega)
    · by_cases hs : (t.size : Int) - (b : Int) < n
      · refine ⟨_, _, _, fun w => GetR.rText_short t a n b w ht (by omega) (by omega) (by omega) (by omega) hs hR, .inr ⟨4, rfl, rfl, rfl, ?_⟩⟩
        unfold rT
        rw [h1]
        exact if_pos (by omega)
      · refine ⟨_, _, _, fun w => GetR.rText_right t a n b w ht (by omega) (by omega) (by omega) (by omega) hs hR, .inl ⟨rfl, b + n.toNat, by omega, ?_, by omega⟩⟩
        unfold rT
        rw [h1]
        have e1 : ((b : Int)).toNat = b := by omega
        have e2 : ((b : Int) + n).toNat = b + n.toNat := by omega
        rw [e1, e2]
        exact if_neg (by omega)
  · refine ⟨_, _, _, fun w => GetR.rText_fault t a c w hR, .inr ⟨c, rfl, rfl, rfl, ?_⟩⟩
    unfold rT
    rw [h1]
/-- Impl's reader in memory. -/
def IRd (w : World) (p : Nat) (t : ByteArray) (st : Option Nat) : Prop :=
  ∃ (a : Nat) (err : Value), w.heap[p]? = some (.cells #[.string t, .int .i64 (a : Int), err] 85 (0, 0)) ∧ a ≤ t.size ∧ ((err = .nilIface ∧ st = some a) ∨ (∃ c, err = wrongV c ∧ st = none))
theorem IRd.stays {w w' : World} {p : Nat} {t : ByteArray} {st : Option Nat} (h : IRd w p t st) (hb : Below w.heap.size w w') : IRd w' p t st := by
  obtain ⟨a, bad, h1, h2, h3⟩ := h
  exact ⟨a, bad, (hb.block p (Array.getElem?_eq_some_iff.1 h1).1).trans h1, h2, h3⟩
theorem IRd.lt {w : World} {p : Nat} {t : ByteArray} {st : Option Nat} (h : IRd w p t st) : p < w.heap.size := by
  obtain ⟨a, bad, h1, _⟩ := h
  exact (Array.getElem?_eq_some_iff.1 h1).1

set_option maxRecDepth 100000 in
set_option maxHeartbeats 400000 in
theorem iRdNum (t : ByteArray) (p : Nat) (st : Option Nat) (w : World) (ht : t.size ≤ 8000) (h : IRd w p t st) :
    Calls Try.prog 109 #[.pointer (some ⟨p, 0, none⟩)] w fun e w' => e = .returned (.int .i64 (rN t st).1) ∧ IRd w' p t (rN t st).2 ∧ w.grownBy w' (some p) := by
  have h' := h
  obtain ⟨a, err, hl, ha, hst⟩ := h
  obtain ⟨c0, c1, c2, f0, f1, f2⟩ := cellsR hl
  have HL := Hid.mk hl
  have HI := Hid.mk h'
  clear hl h'
  rcases hst with ⟨rfl, rfl⟩ | ⟨c, rfl, rfl⟩
  · obtain ⟨n, x, err, hR, hc⟩ := iNum_cases t a ht (by omega)
    have HC := Hid.mk hc
    rcases hc with ⟨rfl, b, rfl, h1, h3⟩ | ⟨c, rfl, rfl, rfl, h1⟩
    · go_enter Try.func109, Try.ntmps109
      go_wp2
      go_region_held3 (fun w' => w'.cell? ⟨p, 0, none⟩ = some (.string t) ∧ w'.cell? ⟨p, 1, none⟩ = some (.int .i64 (a : Int))) (exact ⟨c0, c1⟩) (first | (go_at_call 136; refine (hR _).mono ?_; rintro e w1 ⟨rfl, hw1⟩; subst hw1))
      go_wp2
      go_ret
      refine ⟨congrArg (fun z => Ending.returned (.int .i64 z)) (congrArg Prod.fst h1).symm, ?_, grown_trans' (grown_trans' (grown_set' _ _ _ _) (grown_set' _ _ _ _)) (grown_below' (Below.refl _ _).drew)⟩
      rw [h1]
      exact ⟨b, .nilIface, set2 (set1 HL.out), h3, .inl ⟨rfl, rfl⟩⟩
    · unfold wrongV at hR
      go_enter Try.func109, Try.ntmps109
      go_wp2
      go_region_held3 (fun w' => w'.cell? ⟨p, 0, none⟩ = some (.string t) ∧ w'.cell? ⟨p, 1, none⟩ = some (.int .i64 (a : Int))) (exact ⟨c0, c1⟩) (first | (go_at_call 136; refine (hR _).mono ?_; rintro e w1 ⟨rfl, hw1⟩; subst hw1))
      go_wp2
      go_ret
      refine ⟨congrArg (fun z => Ending.returned (.int .i64 z)) (congrArg Prod.fst h1).symm, ?_, grown_trans' (grown_trans' (grown_set' _ _ _ _) (grown_set' _ _ _ _)) (grown_below' (Below.refl _ _).drew)⟩
      rw [h1]
      exact ⟨0, wrongV c, set2 (set1 HL.out), by omega, .inr ⟨c, rfl, rfl⟩⟩
  · go_enter Try.func109, Try.ntmps109
    unfold wrongV at c2
    go_wp2
    go_ret
    exact ⟨rfl, HI.out, grown_below' (Below.refl _ _)⟩
set_option maxRecDepth 100000 in
set_option maxHeartbeats 400000 in
theorem iRdText (t : ByteArray) (p : Nat) (st : Option Nat) (w : World) (ht : t.size ≤ 8000) (h : IRd w p t st) :
    Calls Try.prog 137 #[.pointer (some ⟨p, 0, none⟩)] w fun e w' => e = .returned (.string (rT t st).1) ∧ IRd w' p t (rT t st).2 ∧ w.grownBy w' (some p) := by
  have h' := h
  obtain ⟨a, err, hl, ha, hst⟩ := h
  obtain ⟨c0, c1, c2, f0, f1, f2⟩ := cellsR hl
  have HL := Hid.mk hl
  have HI := Hid.mk h'
  have hplt := h'.lt
  clear hl h'
  rcases hst with ⟨rfl, rfl⟩ | ⟨c, rfl, rfl⟩
  · obtain ⟨n, x, err, hR, hc⟩ := iTxt_cases t a ht (by omega)
    have HC := Hid.mk hc
    rcases hc with ⟨rfl, b, rfl, h1, h3⟩ | ⟨c, rfl, rfl, rfl, h1⟩
    · go_enter Try.func137, Try.ntmps137
      go_wp2
      go_region_held3 (fun w' => w'.cell? ⟨p, 0, none⟩ = some (.string t) ∧ w'.cell? ⟨p, 1, none⟩ = some (.int .i64 (a : Int))) (exact ⟨c0, c1⟩) (first | (go_at_call 153; refine (hR _).mono ?_; rintro e w1 ⟨rfl, hb1⟩; have hP1 := ((hb1.block p (by simpa using hplt)).trans HL.out); have HP1 := Hid.mk hP1; clear c0 c1 c2 f0 f1 f2; obtain ⟨c0, c1, c2, f0, f1, f2⟩ := cellsR hP1; clear hP1))
      go_wp2
      go_ret
      refine ⟨congrArg (fun z => Ending.returned (.string z)) (congrArg Prod.fst h1).symm, ?_, grown_trans' (grown_trans' (grown_below' ((Below.refl _ _).drew.trans (hb1.mono (by simp)))) (grown_set' _ _ _ _)) (grown_set' _ _ _ _)⟩
      rw [h1]
      exact ⟨b, .nilIface, set2 (set1 HP1.out), h3, .inl ⟨rfl, rfl⟩⟩
    · unfold wrongV at hR
      go_enter Try.func137, Try.ntmps137
      go_wp2
      go_region_held3 (fun w' => w'.cell? ⟨p, 0, none⟩ = some (.string t) ∧ w'.cell? ⟨p, 1, none⟩ = some (.int .i64 (a : Int))) (exact ⟨c0, c1⟩) (first | (go_at_call 153; refine (hR _).mono ?_; rintro e w1 ⟨rfl, hb1⟩; have hP1 := ((hb1.block p (by simpa using hplt)).trans HL.out); have HP1 := Hid.mk hP1; clear c0 c1 c2 f0 f1 f2; obtain ⟨c0, c1, c2, f0, f1, f2⟩ := cellsR hP1; clear hP1))
      go_wp2
      go_ret
      refine ⟨congrArg (fun z => Ending.returned (.string z)) (congrArg Prod.fst h1).symm, ?_, grown_trans' (grown_trans' (grown_below' ((Below.refl _ _).drew.trans (hb1.mono (by simp)))) (grown_set' _ _ _ _)) (grown_set' _ _ _ _)⟩
      rw [h1]
      exact ⟨0, wrongV c, set2 (set1 HP1.out), by omega, .inr ⟨c, rfl, rfl⟩⟩
  · go_enter Try.func137, Try.ntmps137
    unfold wrongV at c2
    go_wp2
    go_ret
    exact ⟨rfl, HI.out, grown_below' (Below.refl _ _)⟩
end Go.Proofs.Ytlphcbgeagmopaa.OpR
