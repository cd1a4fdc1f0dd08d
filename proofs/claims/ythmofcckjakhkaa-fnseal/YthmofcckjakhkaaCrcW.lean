/- Proves what the CRC's functions answer at every text of at most 8000 bytes: impl.CrcMore and spec.l01Crc tell one and the same number of a right crc, and nothing in memory turns. -/
import Derived.Test.YthmofcckjakhkaaRows
import Derived.WalkKit
import Derived.WalkSpells
import Derived.WalkLawsBesides
import Derived.ProofKit
import Derived.Deep.Light
namespace Go.Proofs.Ythmofcckjakhkaa.CrcR
open Go.ChangeShapes Go.WideShapes Go.ChangeAt Go.RowKit Go.ChangeMaps
set_option linter.unusedVariables false

def st1 (r : Int) : Int := if (bits .and .u32 r 1 == 1) = true then bits .xor .u32 (r / 2) 3988292384 else r / 2
def stN : Nat → Int → Int
  | 0, r => r
  | n + 1, r => st1 (stN n r)
def byteStep (r c : Int) : Int := stN 8 (bits .xor .u32 r c)
def at0 (s : ByteArray) (j : Nat) : Int := (s.data.toList.getD j 0).toNat
def regK (s : ByteArray) (r : Int) : Nat → Int
  | 0 => r
  | k + 1 => byteStep (regK s r k) (at0 s k)
def crcOf (crc : Int) (s : ByteArray) : Int := bits .xor .u32 (regK s (bits .xor .u32 crc 4294967295) s.size) 4294967295

theorem at0_eq (s : ByteArray) (j : Nat) (h : j < s.size) : at0 s j = (s[j].toNat : Int) := by
  unfold at0
  have h' : j < s.data.toList.length := by simpa using h
  simp only [List.getD_eq_getElem?_getD, List.getElem?_eq_getElem h', Option.getD_some]
  rfl
theorem xor_comm (a b : Int) : bits .xor .u32 a b = bits .xor .u32 b a := by
  unfold bits; simp only [BitVec.xor_comm]
theorem bits_rng (o : BinOp) (a b : Int) : 0 ≤ bits o .u32 a b ∧ bits o .u32 a b ≤ 4294967295 := by
  unfold bits; rw [IntKind.wrap_u32']; omega
theorem st1_yes {r : Int} (h : (bits .and .u32 r 1 == 1) = true) : st1 r = bits .xor .u32 (r / 2) 3988292384 := if_pos h
theorem st1_no {r : Int} (h : (bits .and .u32 r 1 == 1) = false) : st1 r = r / 2 := if_neg (by rw [h]; decide)
theorem fin_eq (x : Int) : wrap64 (bits .xor .u32 4294967295 x) = bits .xor .u32 x 4294967295 := by
  rw [xor_comm]; exact Go.IntWalk.wrap64_in _ (by have := bits_rng .xor x 4294967295; omega)
theorem fin_eq' (x : Int) : wrap64 (bits .xor .u32 x 4294967295) = bits .xor .u32 x 4294967295 :=
  Go.IntWalk.wrap64_in _ (by have := bits_rng .xor x 4294967295; omega)
theorem crc_rng (c : Int) (s : ByteArray) : 0 ≤ crcOf c s ∧ crcOf c s ≤ 4294967295 := bits_rng _ _ _
theorem ret_int {k : IntKind} {a b : Int} (h : a = b) : Ending.returned (.int k a) = .returned (.int k b) := by rw [h]
theorem val_int {k : IntKind} {a b : Int} (h : a = b) : Value.int k a = .int k b := by rw [h]

set_option maxHeartbeats 400000 in
theorem step_any (r c : Int) (h1 : 0 ≤ c) (h2 : c ≤ 255) (w : World) :
    Calls Try.prog 23 #[.int .u32 r, .int .u8 c] w fun e w' => e = .returned (.int .u32 (byteStep r c)) ∧ w' = w := by
  go_enter Try.func23, Try.ntmps23
  go_wp2
  go_loop [0, 10] (fun t i => ∃ (k : Nat), k ≤ 8 ∧ i = .int .i64 k ∧ t = .int .u32 (stN k (bits .xor .u32 r c))) (fun _ i => 8 - (intOf i).toNat)
  case atStart => exact ⟨0, by omega, rfl, val_int (by first | rfl | (congr 1; omega))⟩
  case round =>
    obtain ⟨k, hk, rfl, rfl⟩ := hrel
    by_cases hlt : k < 8
    · go_wp2
      all_goals
        go_round
        case rel => exact ⟨k + 1, by omega, by go_num, val_int (by first | exact (st1_yes ‹_›).symm | exact (st1_no ‹_›).symm)⟩
        case measure => simp [intOf]; omega
    · go_wp2
      go_ret
      have e : k = 8 := by omega
      exact ⟨ret_int (by rw [e]; rfl), rfl⟩

set_option maxHeartbeats 400000 in
theorem more_any (crc : Int) (h1 : 0 ≤ crc) (h2 : crc ≤ 4294967295) (s : ByteArray) (w : World) (hs : s.size ≤ 8000) :
    Calls Try.prog 10 #[.int .i64 crc, .string s] w fun e w' => e = .returned (.int .i64 (crcOf crc s)) ∧ w' = w := by
  have hsg : IntKind.u32.signed = false := rfl
  have hmx : IntKind.u32.max = 4294967295 := by decide
  go_enter Try.func10, Try.ntmps10
  go_wp2
  go_loop [5, 23] (fun t i => ∃ (k : Nat), k ≤ s.size ∧ i = .int .i64 k ∧ t = .int .u32 (regK s (bits .xor .u32 crc 4294967295) k)) (fun _ i => s.size - (intOf i).toNat)
  case atStart => exact ⟨0, by omega, rfl, val_int (xor_comm _ _)⟩
  case round =>
    obtain ⟨k, hk, rfl, rfl⟩ := hrel
    by_cases hlt : k < s.size
    · have ha : Hid (at0 s k = (s[k].toNat : Int)) := at0_eq s k hlt
      have hc : (s[k].toNat : Int) ≤ 255 := by have := UInt8.toNat_lt s[k]; omega
      go_wp2_with (first | (go_at_call 23; refine (step_any _ _ (by omega) (by omega) _).mono ?_; rintro e w' ⟨rfl, rfl⟩))
      go_round
      case rel => exact ⟨k + 1, by omega, by go_num, val_int (by show _ = byteStep _ _; rw [ha.out])⟩
      case measure => simp [intOf]; omega
    · go_wp2
      go_ret
      have e : k = s.size := by omega
      exact ⟨ret_int (by rw [e]; first | exact fin_eq _ | exact fin_eq' _), rfl⟩

set_option maxHeartbeats 400000 in
theorem spec_any (crc : Int) (h1 : 0 ≤ crc) (h2 : crc ≤ 4294967295) (s : ByteArray) (w : World) (hs : s.size ≤ 8000) :
    Calls Try.prog 20 #[.int .i64 crc, .string s] w fun e w' => e = .returned (.int .i64 (crcOf crc s)) ∧ w' = w := by
  go_enter Try.func20, Try.ntmps20
  go_wp2
  go_loop [5, 6] (fun t i => ∃ (k : Nat), k ≤ s.size ∧ i = .int .i64 k ∧ t = .int .u32 (regK s (bits .xor .u32 crc 4294967295) k)) (fun _ i => s.size - (intOf i).toNat)
  case atStart => exact ⟨0, by omega, rfl, rfl⟩
  case round =>
    obtain ⟨k, hk, rfl, rfl⟩ := hrel
    by_cases hlt : k < s.size
    · have ha : Hid (at0 s k = (s[k].toNat : Int)) := at0_eq s k hlt
      have hc : (s[k].toNat : Int) ≤ 255 := by have := UInt8.toNat_lt s[k]; omega
      go_wp2
      go_loop [5, 7] (fun t i => ∃ (j : Nat), j ≤ 8 ∧ i = .int .i64 j ∧ t = .int .u32 (stN j (bits .xor .u32 (regK s (bits .xor .u32 crc 4294967295) k) (at0 s k)))) (fun _ i => 8 - (intOf i).toNat)
      case atStart => exact ⟨0, by omega, rfl, val_int (by rw [ha.out]; first | rfl | (show _ = bits _ _ _ _; congr 1; omega))⟩
      case round =>
        obtain ⟨j, hj, rfl, rfl⟩ := hrel
        by_cases hj8 : j < 8
        · go_wp2
          all_goals
            go_round
            case rel => exact ⟨j + 1, by omega, by go_num, val_int (by first | exact (st1_yes ‹_›).symm | exact (st1_no ‹_›).symm)⟩
            case measure => simp [intOf]; omega
        · go_wp2
          go_round
          case rel => exact ⟨k + 1, by omega, by go_num, val_int (by have e : j = 8 := by omega
                                                                     rw [e]; rfl)⟩
          case measure => simp [intOf]; omega
    · go_wp2
      go_ret
      have e : k = s.size := by omega
      exact ⟨ret_int (by rw [e]; first | exact fin_eq _ | exact fin_eq' _), rfl⟩

set_option maxHeartbeats 400000 in
theorem more_no (crc : Int) (s : ByteArray) (w : World) (hs : s.size ≤ maxLen) (h : 8000 < s.size ∨ crc < 0 ∨ 4294967295 < crc) :
    Calls Try.prog 10 #[.int .i64 crc, .string s] w fun e w' => e = .returned (.int .i64 0) ∧ w' = w := by
  unfold maxLen at hs
  by_cases h1 : 8000 < s.size
  · go_enter Try.func10, Try.ntmps10
    go_wp2
    go_ret
    exact ⟨rfl, rfl⟩
  by_cases h2 : crc < 0
  · go_enter Try.func10, Try.ntmps10
    go_wp2
    go_ret
    exact ⟨rfl, rfl⟩
  have h3 : 4294967295 < crc := by omega
  clear h
  go_enter Try.func10, Try.ntmps10
  go_wp2
  go_ret
  exact ⟨rfl, rfl⟩
end Go.Proofs.Ythmofcckjakhkaa.CrcR
