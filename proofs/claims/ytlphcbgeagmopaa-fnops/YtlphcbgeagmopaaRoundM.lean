/- Plain mathematics of numbers and texts there and back: what is written is read, and what ends too early is short. -/
import Derived.Test.YtlphcbgeagmopaaNumM
import Derived.Test.YtlphcbgeagmopaaGetM
namespace Go.Proofs.Ytlphcbgeagmopaa.GetR
open Go.RowKit
open NumR (leb leb_last leb_more hiB byte_lo byte_hi foldI foldI_neg foldI_pos places places_step places9)
set_option linter.unusedVariables false

theorem at0_drop {s : ByteArray} {j : Nat} {b : UInt8} {r : List UInt8} (h : s.data.toList.drop j = b :: r) : at0 s j = (b.toNat : Int) ∧ j < s.size ∧ s.data.toList.drop (j + 1) = r := by
  have hj : j < s.data.toList.length := by
    refine Decidable.byContradiction fun hn => ?_
    rw [List.drop_of_length_le (by omega)] at h
    cases h
  have e := List.drop_eq_getElem_cons hj
  rw [e] at h
  injection h with h1 h2
  refine ⟨?_, by simpa using hj, h2⟩
  unfold at0
  rw [List.getD_eq_getElem?_getD, List.getElem?_eq_getElem hj, Option.getD_some, h1]
theorem size_drop {s : ByteArray} {j : Nat} (h : s.data.toList.drop j = []) : s.size ≤ j := by
  have h1 := congrArg List.length h
  rw [List.length_drop] at h1
  have h2 : s.data.toList.length = s.size := by simp
  simp only [List.length_nil] at h1
  omega
theorem pow7 (i : Nat) : ((128 ^ i : Nat) : Int) = 2 ^ (7 * i) := by
  rw [show (128 : Nat) = 2 ^ 7 from rfl, ← Nat.pow_mul]
  exact Int.natCast_pow 2 (7 * i)

/-- The bytes of v, wherever they lie, are read as v. -/
theorem outF_leb (s : ByteArray) (a : Nat) (r : List UInt8) : ∀ (f v i : Nat) (u : Int), i + f = 10 → s.data.toList.drop (a + i) = leb v ++ r → v * 128 ^ i < 18446744073709551616 → (0 < v ∨ i = 0) →
    outF s a f i u = (u + v * 2 ^ (7 * i), ((a + i + (leb v).length : Nat) : Int), 0)
  | 0, v, i, u, hf, hd, hv, hp => by have := places9 (u' := v) (j := i) (by omega) hv; omega
  | f + 1, v, i, u, hf, hd, hv, hp => by
    by_cases h : v < 128
    · rw [leb_last h] at hd
      obtain ⟨e1, e2, e3⟩ := at0_drop hd
      rw [byte_lo h] at e1
      have h9 : ¬ (i = 9 ∧ 1 < at0 s (a + i)) := by
        rintro ⟨rfl, h1⟩
        rw [e1] at h1
        have : 2 * 128 ^ 9 ≤ v * 128 ^ 9 := Nat.mul_le_mul_right _ (by omega)
        have e : (2 : Nat) * 128 ^ 9 = 18446744073709551616 := by decide
        omega
      rw [out_last (by omega) h9 (by omega) (by omega), leb_last h, e1]
      unfold addB
      rw [Int.emod_eq_of_lt (by omega) (by omega)]
      rfl
    · have h8 := places hv h
      rw [leb_more h] at hd
      obtain ⟨e1, e2, e3⟩ := at0_drop hd
      rw [byte_hi] at e1
      rw [out_more (by omega) (by omega) (by omega), outF_leb s a r f (v / 128) (i + 1) _ (by omega) (by rw [← Nat.add_assoc]; exact e3) (places_step hv) (by omega), leb_more h]
      have e4 : addB u (at0 s (a + i)) i + ((v / 128 : Nat) : Int) * 2 ^ (7 * (i + 1)) = u + (v : Int) * 2 ^ (7 * i) := by
        unfold addB
        rw [e1, pow_succ, show ((v : Int) % 128 + 128) % 128 = (v : Int) % 128 by omega]
        have e5 : ((v / 128 : Nat) : Int) = (v : Int) / 128 := by omega
        rw [e5, ← Int.mul_assoc, Int.add_assoc, ← Int.add_mul]
        congr 2
        omega
      rw [e4]
      simp only [List.length_cons]
      congr 2
      omega
/-- With the last byte gone it is short. -/
theorem outF_cut (s : ByteArray) (a : Nat) : ∀ (f v i : Nat) (u : Int), i + f = 10 → s.data.toList.drop (a + i) = (leb v).dropLast → v * 128 ^ i < 18446744073709551616 → (0 < v ∨ i = 0) →
    outF s a f i u = (0, 0, 4)
  | 0, v, i, u, hf, hd, hv, hp => by have := places9 (u' := v) (j := i) (by omega) hv; omega
  | f + 1, v, i, u, hf, hd, hv, hp => by
    by_cases h : v < 128
    · rw [leb_last h] at hd
      exact out_short (size_drop hd)
    · have h8 := places hv h
      have hne : leb (v / 128) ≠ [] := by
        by_cases h2 : v / 128 < 128
        · rw [leb_last h2]; simp
        · rw [leb_more h2]; simp
      rw [leb_more h, List.dropLast_cons_of_ne_nil hne] at hd
      obtain ⟨e1, e2, e3⟩ := at0_drop hd
      rw [byte_hi] at e1
      rw [out_more (by omega) (by omega) (by omega)]
      exact outF_cut s a f (v / 128) (i + 1) _ (by omega) (by rw [← Nat.add_assoc]; exact e3) (places_step hv) (by omega)
theorem leb_len10 : ∀ (f v i : Nat), i + f = 10 → v * 128 ^ i < 18446744073709551616 → (0 < v ∨ i = 0) → 1 ≤ (leb v).length ∧ (leb v).length + i ≤ 10
  | 0, v, i, hf, hv, hp => by have := places9 (u' := v) (j := i) (by omega) hv; omega
  | f + 1, v, i, hf, hv, hp => by
    by_cases h : v < 128
    · rw [leb_last h]; simp; omega
    · have h8 := places hv h
      have := leb_len10 f (v / 128) (i + 1) (by omega) (places_step hv) (by omega)
      rw [leb_more h]; simp only [List.length_cons]; omega

theorem foldI_rng {n : Int} (h1 : -9223372036854775808 ≤ n) (h2 : n ≤ 9223372036854775807) : 0 ≤ foldI n ∧ foldI n < 18446744073709551616 := by
  by_cases h : n < 0
  · rw [foldI_neg h]; omega
  · rw [foldI_pos h]; omega
theorem dec_fold (n : Int) : dec (foldI n) = n := by
  unfold dec
  by_cases h : n < 0
  · rw [foldI_neg h, if_pos (by omega)]; omega
  · rw [foldI_pos h, if_neg (by omega)]; omega
theorem out_put {s : ByteArray} {a : Nat} {r : List UInt8} {n : Int} (h1 : -9223372036854775808 ≤ n) (h2 : n ≤ 9223372036854775807) (hd : s.data.toList.drop a = leb (foldI n).toNat ++ r) :
    out s a = (foldI n, ((a + (leb (foldI n).toNat).length : Nat) : Int), 0) := by
  have hr := foldI_rng h1 h2
  have h := outF_leb s a r 10 (foldI n).toNat 0 0 rfl hd (by omega) (.inr rfl)
  unfold out
  rw [h, show 7 * 0 = 0 from rfl, Int.pow_zero, Int.mul_one, Int.zero_add, Int.toNat_of_nonneg hr.1]
  rfl
theorem out_cut {s : ByteArray} {n : Int} (h1 : -9223372036854775808 ≤ n) (h2 : n ≤ 9223372036854775807) (hd : s.data.toList = (leb (foldI n).toNat).dropLast) : out s 0 = (0, 0, 4) := by
  have hr := foldI_rng h1 h2
  exact outF_cut s 0 10 (foldI n).toNat 0 0 rfl hd (by omega) (.inr rfl)
theorem put_len {n : Int} (h1 : -9223372036854775808 ≤ n) (h2 : n ≤ 9223372036854775807) : 1 ≤ (leb (foldI n).toNat).length ∧ (leb (foldI n).toNat).length ≤ 10 := by
  have hr := foldI_rng h1 h2
  exact leb_len10 10 (foldI n).toNat 0 rfl (by omega) (.inr rfl)
end Go.Proofs.Ytlphcbgeagmopaa.GetR
