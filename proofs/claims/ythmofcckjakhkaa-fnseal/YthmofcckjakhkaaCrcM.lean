/- Plain mathematics of the CRC: one byte turned turns it; it goes on from text to text. -/
import Derived.Test.YthmofcckjakhkaaSealW
import Derived.Test.YthmofcckjakhkaaUnsealW
namespace Go.Proofs.Ythmofcckjakhkaa.CrcR
open Go.RowKit
set_option linter.unusedVariables false

theorem xr (a b : Int) (ha : 0 ≤ a ∧ a < 4294967296) (hb : 0 ≤ b ∧ b < 4294967296) : bits .xor .u32 a b = ((a.toNat ^^^ b.toNat : Nat) : Int) := u32_xor a b ha.1 ha.2 hb.1 hb.2
theorem xor_inj {a b c : Nat} (h : a ^^^ c = b ^^^ c) : a = b := by
  have := congrArg (· ^^^ c) h
  simpa [Nat.xor_assoc] using this
theorem xr_inj {a b c : Int} (ha : 0 ≤ a ∧ a < 4294967296) (hb : 0 ≤ b ∧ b < 4294967296) (hc : 0 ≤ c ∧ c < 4294967296) (h : bits .xor .u32 a c = bits .xor .u32 b c) : a = b := by
  rw [xr a c ha hc, xr b c hb hc] at h
  have := xor_inj (by omega : a.toNat ^^^ c.toNat = b.toNat ^^^ c.toNat)
  omega
theorem xr_inj' {a b c : Int} (ha : 0 ≤ a ∧ a < 4294967296) (hb : 0 ≤ b ∧ b < 4294967296) (hc : 0 ≤ c ∧ c < 4294967296) (h : bits .xor .u32 c a = bits .xor .u32 c b) : a = b := by
  rw [xor_comm c a, xor_comm c b] at h
  exact xr_inj ha hb hc h
theorem xr_twice {a c : Int} (ha : 0 ≤ a ∧ a < 4294967296) (hc : 0 ≤ c ∧ c < 4294967296) : bits .xor .u32 (bits .xor .u32 a c) c = a := by
  have h1 := bits_rng .xor a c
  rw [xr _ c ⟨h1.1, by omega⟩ hc, xr a c ha hc]
  simp [Nat.xor_assoc]
  omega
theorem and_one32 (r : Int) (h : 0 ≤ r ∧ r < 4294967296) : bits .and .u32 r 1 = r % 2 := by
  obtain ⟨x, rfl⟩ : ∃ x : Nat, r = (x : Int) := ⟨r.toNat, by omega⟩
  have e := u32_and_nat x 1 (by omega) (by omega)
  rw [nat_mask1] at e
  exact e.trans (by omega)
theorem st1_rng {r : Int} (h : 0 ≤ r ∧ r < 4294967296) : 0 ≤ st1 r ∧ st1 r < 4294967296 := by
  unfold st1
  split
  · have := bits_rng .xor (r / 2) 3988292384; omega
  · omega
theorem st1_odd {r : Int} (h : 0 ≤ r ∧ r < 4294967296) (e : r % 2 = 1) : st1 r = bits .xor .u32 (r / 2) 3988292384 := if_pos (by rw [and_one32 r h, e]; decide)
theorem st1_even {r : Int} (h : 0 ≤ r ∧ r < 4294967296) (e : ¬ r % 2 = 1) : st1 r = r / 2 := if_neg (by rw [and_one32 r h]; simpa using e)
theorem top_set (x : Nat) (h : x < 2147483648) : 2147483648 ≤ x ^^^ 3988292384 := by
  have h1 : (x ^^^ 3988292384).testBit 31 = true := by
    rw [Nat.testBit_xor]
    have : x.testBit 31 = false := Nat.testBit_lt_two_pow (by simpa using h)
    rw [this]; decide
  exact Nat.ge_two_pow_of_testBit h1
theorem st1_inj {a b : Int} (ha : 0 ≤ a ∧ a < 4294967296) (hb : 0 ≤ b ∧ b < 4294967296) (h : st1 a = st1 b) : a = b := by
  have big : ∀ r : Int, 0 ≤ r ∧ r < 4294967296 → 2147483648 ≤ bits .xor .u32 (r / 2) 3988292384 := fun r hr => by
    rw [xr (r / 2) 3988292384 (by omega) (by omega)]
    have := top_set (r / 2).toNat (by omega)
    have e : (3988292384 : Int).toNat = 3988292384 := rfl
    rw [e]; omega
  by_cases ea : a % 2 = 1 <;> by_cases eb : b % 2 = 1
  · rw [st1_odd ha ea, st1_odd hb eb] at h
    have := xr_inj (by omega) (by omega) (by omega) h
    omega
  · rw [st1_odd ha ea, st1_even hb eb] at h
    have := big a ha; omega
  · rw [st1_even ha ea, st1_odd hb eb] at h
    have := big b hb; omega
  · rw [st1_even ha ea, st1_even hb eb] at h
    omega
theorem stN_rng {r : Int} (h : 0 ≤ r ∧ r < 4294967296) : ∀ n, 0 ≤ stN n r ∧ stN n r < 4294967296
  | 0 => h
  | n + 1 => st1_rng (stN_rng h n)
theorem stN_inj {a b : Int} (ha : 0 ≤ a ∧ a < 4294967296) (hb : 0 ≤ b ∧ b < 4294967296) : ∀ n, stN n a = stN n b → a = b
  | 0, h => h
  | n + 1, h => stN_inj ha hb n (st1_inj (stN_rng ha n) (stN_rng hb n) h)
theorem x_rng (a b : Int) : 0 ≤ bits .xor .u32 a b ∧ bits .xor .u32 a b < 4294967296 := by have := bits_rng .xor a b; omega
theorem byteStep_rng (r c : Int) : 0 ≤ byteStep r c ∧ byteStep r c < 4294967296 := stN_rng (x_rng r c) 8
theorem byteStep_reg {a b c : Int} (ha : 0 ≤ a ∧ a < 4294967296) (hb : 0 ≤ b ∧ b < 4294967296) (hc : 0 ≤ c ∧ c < 4294967296) (h : byteStep a c = byteStep b c) : a = b :=
  xr_inj ha hb hc (stN_inj (x_rng a c) (x_rng b c) 8 h)
theorem byteStep_byte {a b c : Int} (ha : 0 ≤ a ∧ a < 4294967296) (hb : 0 ≤ b ∧ b < 4294967296) (hc : 0 ≤ c ∧ c < 4294967296) (h : byteStep c a = byteStep c b) : a = b :=
  xr_inj' ha hb hc (stN_inj (x_rng c a) (x_rng c b) 8 h)
theorem at0_rng (s : ByteArray) (j : Nat) : 0 ≤ at0 s j ∧ at0 s j < 4294967296 := by
  unfold at0
  have := UInt8.toNat_lt (s.data.toList.getD j 0)
  omega
theorem regK_rng (s : ByteArray) {r : Int} (h : 0 ≤ r ∧ r < 4294967296) : ∀ k, 0 ≤ regK s r k ∧ regK s r k < 4294967296
  | 0 => h
  | k + 1 => byteStep_rng _ _
theorem regK_same {s t : ByteArray} {r : Int} : ∀ k, (∀ j, j < k → at0 s j = at0 t j) → regK s r k = regK t r k
  | 0, _ => rfl
  | k + 1, h => by
    show byteStep _ _ = byteStep _ _
    rw [regK_same k (fun j hj => h j (by omega)), h k (by omega)]
theorem regK_turned {s t : ByteArray} {r : Int} (hr : 0 ≤ r ∧ r < 4294967296) {p : Nat} (hp : at0 s p ≠ at0 t p) (he : ∀ j, j ≠ p → at0 s j = at0 t j) : ∀ k, p < k → regK s r k ≠ regK t r k
  | 0, h => absurd h (by omega)
  | k + 1, h => by
    show byteStep _ _ ≠ byteStep _ _
    by_cases e : k = p
    · subst e
      rw [regK_same k (fun j hj => he j (by omega))]
      exact fun h => hp (byteStep_byte (at0_rng _ _) (at0_rng _ _) (regK_rng t hr k) h)
    · rw [he k e]
      exact fun h2 => regK_turned hr hp he k (by omega) (byteStep_reg (regK_rng s hr k) (regK_rng t hr k) (at0_rng _ _) h2)
theorem ones : 0 ≤ (4294967295 : Int) ∧ (4294967295 : Int) < 4294967296 := by omega
theorem crc_turned {s t : ByteArray} (hz : s.size = t.size) {p : Nat} (hps : p < s.size) (hp : at0 s p ≠ at0 t p) (he : ∀ j, j ≠ p → at0 s j = at0 t j) (c : Int) : crcOf c s ≠ crcOf c t := by
  unfold crcOf
  rw [← hz]
  exact fun h => regK_turned (x_rng _ _) hp he s.size hps (xr_inj (regK_rng s (x_rng _ _) _) (regK_rng t (x_rng _ _) _) ones h)

theorem at0_left {a b : ByteArray} {j : Nat} (h : j < a.size) : at0 (a ++ b) j = at0 a j := by
  unfold at0
  have h' : j < a.data.toList.length := by simpa using h
  have e : (a ++ b).data.toList = a.data.toList ++ b.data.toList := by simp
  rw [e, List.getD_eq_getElem?_getD, List.getD_eq_getElem?_getD, List.getElem?_append_left h']
theorem at0_right {a b : ByteArray} {j : Nat} : at0 (a ++ b) (a.size + j) = at0 b j := by
  unfold at0
  have e : (a ++ b).data.toList = a.data.toList ++ b.data.toList := by simp
  have e2 : a.data.toList.length = a.size := by simp
  rw [e, List.getD_eq_getElem?_getD, List.getD_eq_getElem?_getD, List.getElem?_append_right (by rw [e2]; omega), e2, Nat.add_sub_cancel_left]
theorem regK_app (a b : ByteArray) (r : Int) : ∀ k, regK (a ++ b) r (a.size + k) = regK b (regK a r a.size) k
  | 0 => regK_same a.size (fun j hj => at0_left hj)
  | k + 1 => by
    show byteStep (regK (a ++ b) r (a.size + k)) (at0 (a ++ b) (a.size + k)) = byteStep _ _
    rw [regK_app a b r k, at0_right]
theorem crc_on (t u : ByteArray) (c : Int) (hc : 0 ≤ c ∧ c < 4294967296) : crcOf (crcOf c t) u = crcOf c (t ++ u) := by
  unfold crcOf
  have e : (t ++ u).size = t.size + u.size := by simp
  rw [e, regK_app, xr_twice (regK_rng t (x_rng _ _) _) ones]

theorem byteAt_eq {c d e : Int} (h : NumR.byteAt c e = NumR.byteAt d e) : c / e % 256 = d / e % 256 := by
  have h2 := congrArg UInt8.toNat h
  unfold NumR.byteAt at h2
  rw [UInt8.toNat_ofNat', UInt8.toNat_ofNat'] at h2
  have a := Int.emod_nonneg (c / e) (b := 256) (by decide)
  have b := Int.emod_lt_of_pos (c / e) (b := 256) (by decide)
  have a' := Int.emod_nonneg (d / e) (b := 256) (by decide)
  have b' := Int.emod_lt_of_pos (d / e) (b := 256) (by decide)
  omega
theorem four_inj {c d : Int} (hc : 0 ≤ c ∧ c ≤ 4294967295) (hd : 0 ≤ d ∧ d ≤ 4294967295) (h : NumR.four c = NumR.four d) : c = d := by
  unfold NumR.four at h
  simp only [List.cons.injEq] at h
  obtain ⟨h0, h1, h2, h3, _⟩ := h
  have e0 := byteAt_eq h0
  have e1 := byteAt_eq h1
  have e2 := byteAt_eq h2
  have e3 := byteAt_eq h3
  omega
theorem sumB_inj {s t : ByteArray} (h : NumR.sumB s = NumR.sumB t) : crcOf 0 s = crcOf 0 t := by
  have h2 := congrArg (fun b : ByteArray => b.data.toList) h
  exact four_inj (crc_rng 0 s) (crc_rng 0 t) (by simpa [NumR.sumB] using h2)

/-- A text with one byte turned. -/
def flip (s : ByteArray) (p : Nat) (v : UInt8) : ByteArray := ⟨(s.data.toList.set p v).toArray⟩
theorem flip_list (s : ByteArray) (p : Nat) (v : UInt8) : (flip s p v).data.toList = s.data.toList.set p v := by simp [flip]
theorem flip_size (s : ByteArray) (p : Nat) (v : UInt8) : (flip s p v).size = s.size := by
  have h := congrArg List.length (flip_list s p v)
  simpa using h
theorem list_eq {a b : ByteArray} (h : a.data.toList = b.data.toList) : a = b := ByteArray.ext (Array.toList_inj.1 h)
theorem inner_list (s : ByteArray) : (NumR.inner s).data.toList = s.data.toList.take (s.size - 4) := by
  unfold NumR.inner; rw [Lib.extract_data]; simp
theorem tail_list (s : ByteArray) : (NumR.tail4 s).data.toList = s.data.toList.drop (s.size - 4) := by
  have hl : s.data.toList.length = s.size := by simp
  unfold NumR.tail4; rw [Lib.extract_data]
  exact List.take_of_length_le (by rw [List.length_drop, hl]; exact Nat.le_refl _)
theorem seal_list (t : ByteArray) : (t ++ NumR.sumB t).data.toList = t.data.toList ++ (NumR.sumB t).data.toList := by simp
theorem seal_size (t : ByteArray) : (t ++ NumR.sumB t).size = t.size + 4 := by
  have : (t ++ NumR.sumB t).size = t.size + (NumR.sumB t).size := by simp
  rw [this, NumR.sumB_size]
theorem seal_inner (t : ByteArray) : NumR.inner (t ++ NumR.sumB t) = t := by
  have hl : t.data.toList.length = t.size := by simp
  refine list_eq ?_
  rw [inner_list, seal_size, Nat.add_sub_cancel, seal_list, ← hl]; simp
theorem seal_tail (t : ByteArray) : NumR.tail4 (t ++ NumR.sumB t) = NumR.sumB t := by
  have hl : t.data.toList.length = t.size := by simp
  refine list_eq ?_
  rw [tail_list, seal_size, Nat.add_sub_cancel, seal_list, ← hl]; simp
theorem flip_refused (t : ByteArray) (p : Nat) (v : UInt8) (hp : p < t.size + 4) (hv : (t ++ NumR.sumB t).data.toList.getD p 0 ≠ v) :
    ¬ NumR.sumB (NumR.inner (flip (t ++ NumR.sumB t) p v)) = NumR.tail4 (flip (t ++ NumR.sumB t) p v) := by
  have hl : t.data.toList.length = t.size := by simp
  have h4 : (NumR.sumB t).data.toList.length = 4 := rfl
  have hi : (NumR.inner (flip (t ++ NumR.sumB t) p v)).data.toList = ((t.data.toList ++ (NumR.sumB t).data.toList).set p v).take t.size := by
    rw [inner_list, flip_size, flip_list, seal_size, Nat.add_sub_cancel, seal_list]
  have ht : (NumR.tail4 (flip (t ++ NumR.sumB t) p v)).data.toList = ((t.data.toList ++ (NumR.sumB t).data.toList).set p v).drop t.size := by
    rw [tail_list, flip_size, flip_list, seal_size, Nat.add_sub_cancel, seal_list]
  rw [seal_list] at hv
  by_cases h : p < t.size
  · rw [List.set_append_left _ _ (by rw [hl]; exact h)] at hi ht
    have ei : NumR.inner (flip (t ++ NumR.sumB t) p v) = flip t p v := by
      refine list_eq ?_
      rw [hi, flip_list, ← hl]
      rw [List.take_append_of_le_length (by simp), List.take_of_length_le (by simp)]
    have et : NumR.tail4 (flip (t ++ NumR.sumB t) p v) = NumR.sumB t := by
      refine list_eq ?_
      rw [ht, ← hl]
      rw [List.drop_append_of_le_length (by simp), List.drop_of_length_le (by simp), List.nil_append]
    rw [ei, et]
    intro e
    have hv2 : t.data.toList.getD p 0 ≠ v := by
      rw [List.getD_eq_getElem?_getD, List.getElem?_append_left (by rw [hl]; exact h)] at hv
      rwa [List.getD_eq_getElem?_getD]
    refine crc_turned (s := flip t p v) (t := t) (flip_size t p v) (p := p) (by rw [flip_size]; exact h) ?_ ?_ 0 (sumB_inj e)
    · unfold at0
      rw [flip_list, List.getD_eq_getElem?_getD, List.getElem?_set_self (by rw [hl]; exact h), Option.getD_some]
      intro e2
      exact hv2 (UInt8.toNat_inj.1 (by omega)).symm
    · intro j hj
      unfold at0
      rw [flip_list, List.getD_eq_getElem?_getD, List.getElem?_set_ne (fun e => hj e.symm), ← List.getD_eq_getElem?_getD]
  · rw [List.set_append_right _ _ (by rw [hl]; omega)] at hi ht
    have ei : NumR.inner (flip (t ++ NumR.sumB t) p v) = t := by
      refine list_eq ?_
      rw [hi, ← hl]
      rw [List.take_append_of_le_length (Nat.le_refl _), List.take_of_length_le (Nat.le_refl _)]
    rw [ei]
    intro e
    have e2 : (NumR.sumB t).data.toList = (NumR.tail4 (flip (t ++ NumR.sumB t) p v)).data.toList := congrArg (fun b : ByteArray => b.data.toList) e
    rw [ht, ← hl, List.drop_append_of_le_length (Nat.le_refl _), List.drop_of_length_le (Nat.le_refl _), List.nil_append] at e2
    apply hv
    rw [List.getD_eq_getElem?_getD, List.getElem?_append_right (by rw [hl]; omega)]
    rw [e2, List.getElem?_set_self (by rw [h4, hl]; omega), Option.getD_some]
end Go.Proofs.Ythmofcckjakhkaa.CrcR
