/- Plain mathematics of the bytes of a number, seven bits a byte: no program is named here. -/
import Derived.Test.YtlphcbgeagmopaaRows
import Derived.WalkKit
import Derived.WalkSpells
import Derived.WalkLawsBesides
import Derived.ProofKit
import Derived.Deep.Light
import Derived.Deep.AppendLies
namespace Go.Proofs.Ytlphcbgeagmopaa.NumR
open Go.RowKit
set_option linter.unusedVariables false

/-- What PutNum takes for n. -/
def foldI (n : Int) : Int := if n < 0 then -2 * n - 1 else 2 * n
theorem foldI_neg {n : Int} (h : n < 0) : foldI n = -2 * n - 1 := if_pos h
theorem foldI_pos {n : Int} (h : ¬ n < 0) : foldI n = 2 * n := if_neg h

/-- A byte that is not the last. -/
def hiB (u : Nat) : UInt8 := UInt8.ofNat (u % 128 + 128)
/-- The bytes of u, seven bits a byte, the lowest first, by fuel. -/
def lebF : Nat → Nat → List UInt8
  | 0, u => [UInt8.ofNat u]
  | f + 1, u => if u < 128 then [UInt8.ofNat u] else hiB u :: lebF f (u / 128)
theorem lebF_last {f u : Nat} (h : u < 128) : lebF f u = [UInt8.ofNat u] := by
  cases f with
  | zero => rfl
  | succ f => exact if_pos h
theorem lebF_more {f u : Nat} (h : ¬ u < 128) : lebF (f + 1) u = hiB u :: lebF f (u / 128) := if_neg h
theorem lebF_fuel : ∀ (f g u : Nat), u ≤ f → u ≤ g → lebF f u = lebF g u
  | 0, g, u, h1, h2 => by rw [lebF_last (by omega), lebF_last (by omega)]
  | f + 1, 0, u, h1, h2 => by rw [lebF_last (by omega), lebF_last (by omega)]
  | f + 1, g + 1, u, h1, h2 => by
    by_cases h : u < 128
    · rw [lebF_last h, lebF_last h]
    · rw [lebF_more h, lebF_more h, lebF_fuel f g (u / 128) (by omega) (by omega)]
/-- The bytes of u. -/
def leb (u : Nat) : List UInt8 := lebF u u
theorem leb_last {u : Nat} (h : u < 128) : leb u = [UInt8.ofNat u] := lebF_last h
theorem leb_more {u : Nat} (h : ¬ u < 128) : leb u = hiB u :: leb (u / 128) := by
  obtain ⟨f, rfl⟩ : ∃ f, u = f + 1 := ⟨u - 1, by omega⟩
  show lebF (f + 1) (f + 1) = _
  rw [lebF_more h, lebF_fuel f ((f + 1) / 128) _ (by omega) (Nat.le_refl _)]
  rfl

/-- The bytes as cells. -/
def cellsOf (l : List UInt8) : List Value := l.map fun b => .int .u8 (b.toNat : Int)
theorem cellsOf_snoc (l : List UInt8) (b : UInt8) : cellsOf (l ++ [b]) = cellsOf l ++ [.int .u8 (b.toNat : Int)] := by simp [cellsOf]
theorem cellsOf_len (l : List UInt8) : (cellsOf l).length = l.length := by simp [cellsOf]

theorem byte_lo {u : Nat} (h : u < 128) : ((UInt8.ofNat u).toNat : Int) = (u : Int) := by
  rw [UInt8.toNat_ofNat', Nat.mod_eq_of_lt (by omega)]
theorem byte_hi {u : Nat} : ((hiB u).toNat : Int) = (u : Int) % 128 + 128 := by
  unfold hiB; rw [UInt8.toNat_ofNat', Nat.mod_eq_of_lt (by omega)]; omega
theorem with_cells {w : World} {base : Nat} {e : TypeId} {size : Nat} {v : Value} {n : Nat} {xs ys : List Value} (h : w.ownsRow base e size v n xs) (hy : ys = xs) : w.ownsRow base e size v n ys := hy ▸ h

theorem places {u' j : Nat} (h : u' * 128 ^ j < 18446744073709551616) (h2 : ¬ u' < 128) : j ≤ 8 := by
  refine Decidable.byContradiction fun hj => ?_
  have e : 128 ^ 9 ≤ 128 ^ j := Nat.pow_le_pow_right (by decide) (by omega)
  have e2 : 128 * 128 ^ 9 ≤ u' * 128 ^ j := Nat.mul_le_mul (by omega) e
  have e3 : (128 : Nat) * 128 ^ 9 = 1180591620717411303424 := by decide
  omega
theorem places_step {u' j : Nat} (h : u' * 128 ^ j < 18446744073709551616) : u' / 128 * 128 ^ (j + 1) < 18446744073709551616 := by
  have : u' / 128 * 128 ^ (j + 1) ≤ u' * 128 ^ j := by
    rw [Nat.pow_succ, ← Nat.mul_assoc, Nat.mul_right_comm]
    exact Nat.mul_le_mul_right _ (Nat.div_mul_le_self _ _)
  omega
theorem places9 {u' j : Nat} (hp : 0 < u' ∨ j ≤ 9) (h : u' * 128 ^ j < 18446744073709551616) : j ≤ 9 := by
  refine Decidable.byContradiction fun hj => ?_
  have e : 128 ^ 10 ≤ 128 ^ j := Nat.pow_le_pow_right (by decide) (by omega)
  have e2 : 1 * 128 ^ 10 ≤ u' * 128 ^ j := Nat.mul_le_mul (by omega) e
  have e3 : (1 : Nat) * 128 ^ 10 = 1180591620717411303424 := by decide
  omega

/-- The ten bytes of the array, the first ones written. -/
def arr (l : List UInt8) : Array Value := (cellsOf l ++ List.replicate (10 - l.length) (Value.int .u8 0)).toArray
theorem arr_size {l : List UInt8} (h : l.length ≤ 10) : (arr l).size = 10 := by simp [arr, cellsOf]; omega
theorem arr_set {l : List UInt8} (h : l.length ≤ 9) (b : UInt8) (v : Int) (hv : (b.toNat : Int) = v) : (arr l).setIfInBounds l.length (.int .u8 v) = arr (l ++ [b]) := by
  subst hv
  unfold arr
  rw [cellsOf_snoc]
  have e : 10 - l.length = (10 - (l ++ [b]).length) + 1 := by simp; omega
  rw [e, List.replicate_succ]
  simp only [List.setIfInBounds_toArray]
  congr 1
  rw [List.set_append_right _ _ (by rw [cellsOf_len]; exact Nat.le_refl _), cellsOf_len, Nat.sub_self, List.set_cons_zero, List.append_assoc]
  rfl

theorem arr_at {l : List UInt8} (h : l.length ≤ 9) : (arr l)[l.length]? = some (.int .u8 0) := by
  unfold arr
  rw [List.getElem?_toArray, List.getElem?_append_right (by rw [cellsOf_len]; exact Nat.le_refl _), cellsOf_len, Nat.sub_self]
  rw [show 10 - l.length = (9 - l.length) + 1 by omega, List.replicate_succ]
  rfl
theorem or_all : ∀ a : Fin 256, (a.val ||| 128) = a.val % 128 + 128 := by decide +kernel
theorem or_hi {u : Nat} : ((hiB u).toNat : Int) = bits .or .u8 ((u : Int) % 256) 128 := by
  rw [byte_hi]
  have e := u8_or_nat (u % 256) 128 (by omega) (by omega)
  have e2 := or_all ⟨u % 256, by omega⟩
  simp only at e2
  rw [e2] at e
  have e3 : ((u % 256 : Nat) : Int) = (u : Int) % 256 := by omega
  rw [e3] at e
  exact (by rw [show ((128 : Nat) : Int) = 128 from rfl] at e; rw [e]; omega)
theorem xor_zero (a : Int) (h1 : 0 ≤ a) (h2 : a < 18446744073709551616) : bits .xor .u64 a 0 = a := by
  have := u64_xor a 0 h1 h2 (by omega) (by omega)
  rw [this]; simp; omega
theorem xor_ones (a : Int) (h1 : 0 ≤ a) (h2 : a < 18446744073709551616) : bits .xor .u64 a 18446744073709551615 = 18446744073709551615 - a := by
  obtain ⟨k, rfl⟩ : ∃ k : Nat, a = (k : Int) := ⟨a.toNat, by omega⟩
  have hk : k < 2 ^ 64 := by omega
  have e := u64_xor_nat k 18446744073709551615 (by omega) (by omega)
  have e2 : (k ^^^ 18446744073709551615 : Nat) = 18446744073709551615 - k := by
    have h := congrArg BitVec.toNat (BitVec.xor_allOnes (x := BitVec.ofNat 64 k))
    rw [BitVec.toNat_xor, BitVec.toNat_not, BitVec.toNat_ofNat, Nat.mod_eq_of_lt hk] at h
    exact h
  rw [e2] at e
  exact e.trans (by omega)
theorem fold_bits (n : Int) (h1 : -9223372036854775808 ≤ n) (h2 : n ≤ 9223372036854775807) :
    bits .xor .u64 (IntKind.u64.wrap (IntKind.u64.wrap n * 2)) (IntKind.u64.wrap (n / 9223372036854775808)) = foldI n := by
  simp only [IntKind.wrap_u64]
  by_cases h : n < 0
  · rw [foldI_neg h, show n / 9223372036854775808 % 18446744073709551616 = 18446744073709551615 by omega, xor_ones _ (by omega) (by omega)]; omega
  · rw [foldI_pos h, show n / 9223372036854775808 % 18446744073709551616 = 0 by omega, xor_zero _ (by omega) (by omega)]; omega

theorem ret_int {k : IntKind} {a b : Int} (h : a = b) : Ending.returned (.int k a) = .returned (.int k b) := by rw [h]
theorem ret_str {a b : ByteArray} (h : a = b) : Ending.returned (.string a) = .returned (.string b) := by rw [h]
theorem val_int {k : IntKind} {a b : Int} (h : a = b) : Value.int k a = .int k b := by rw [h]
end Go.Proofs.Ytlphcbgeagmopaa.NumR
