/- Proves what spec.Seal and impl.Seal answer at every text: the same bytes, in new memory alone. -/
import Derived.Test.YthmofcckjakhkaaCrcW
import Derived.Test.YthmofcckjakhkaaJoin
namespace Go.Proofs.Ythmofcckjakhkaa.NumR
open Go.ChangeShapes Go.WideShapes Go.ChangeAt Go.RowKit Go.ChangeMaps
set_option linter.unusedVariables false

def byteAt (c : Int) (d : Int) : UInt8 := UInt8.ofNat (c / d % 256).toNat
def four (c : Int) : List UInt8 := [byteAt c 1, byteAt c 256, byteAt c 65536, byteAt c 16777216]

theorem four_eq {c : Int} (h1 : 0 ≤ c) (h2 : c ≤ 4294967295) : (⟨(four c).toArray⟩ : ByteArray) = ⟨#[UInt8.ofNat (c % 256).toNat, UInt8.ofNat (c / 256 % 256).toNat, UInt8.ofNat (c / 65536 % 256).toNat, UInt8.ofNat (c / 16777216).toNat]⟩ := by
  have e : c / 16777216 % 256 = c / 16777216 := by omega
  simp [four, byteAt, e]
/-- The array of four bytes, the first k written. -/
def r4 (c : Int) : Nat → Array Value
  | 0 => #[.int .u8 0, .int .u8 0, .int .u8 0, .int .u8 0]
  | 1 => #[.int .u8 (c % 256), .int .u8 0, .int .u8 0, .int .u8 0]
  | 2 => #[.int .u8 (c % 256), .int .u8 (c / 256 % 256), .int .u8 0, .int .u8 0]
  | 3 => #[.int .u8 (c % 256), .int .u8 (c / 256 % 256), .int .u8 (c / 65536 % 256), .int .u8 0]
  | _ => #[.int .u8 (c % 256), .int .u8 (c / 256 % 256), .int .u8 (c / 65536 % 256), .int .u8 (c / 16777216)]
theorem conv4 (w : World) (T : TypeId) (x0 x1 x2 x3 : Int) :
    (convert 22 9 (.slice (some ⟨w.heap.size, 0, none⟩) 4 4)).run Try.prog (w.alloc (.cells #[.int .u8 x0, .int .u8 x1, .int .u8 x2, .int .u8 x3] T)) = .ok (.string ⟨#[UInt8.ofNat x0.toNat, UInt8.ofNat x1.toNat, UInt8.ofNat x2.toNat, UInt8.ofNat x3.toNat]⟩) (w.alloc (.cells #[.int .u8 x0, .int .u8 x1, .int .u8 x2, .int .u8 x3] T)) := by
  rw [run_convert_bytes_string _ 22 9 5 _ 4 4 Try.underlying22 Try.underlying5 Try.underlying9]
  have hl := run_loadCells_list (P := Try.prog) (w.alloc (.cells #[.int .u8 x0, .int .u8 x1, .int .u8 x2, .int .u8 x3] T)) ⟨w.heap.size, 0, none⟩ ([x0, x1, x2, x3].map (Value.int .u8)) (fun j v hj => by
    rw [Addr.add_lit, Nat.zero_add, World.cell?_alloc_at _ _ _ _ rfl]
    simpa using hj)
  rw [run_bytesToString _ ⟨w.heap.size, 0, none⟩ 4 4 [x0, x1, x2, x3] hl]
  rfl

set_option maxRecDepth 100000 in
set_option maxHeartbeats 400000 in
theorem four_any (c : Int) (h1 : 0 ≤ c) (h2 : c ≤ 4294967295) (w : World) :
    Calls Try.prog 19 #[.int .i64 c] w fun e w' => e = .returned (.string ⟨(four c).toArray⟩) ∧ Below w.heap.size w w' := by
  have hcv := fun x0 x1 x2 x3 => conv4 w 5 x0 x1 x2 x3
  go_enter Try.func19, Try.ntmps19
  go_wp2
  go_ret
  exact ⟨ret_str (four_eq h1 h2).symm, (Below.refl _ _).alloc (Nat.le_refl _) _⟩

set_option maxHeartbeats 400000 in
theorem iCrc_small (s : ByteArray) (w : World) (hs : s.size ≤ 8000) :
    Calls Try.prog 12 #[.string s] w fun e w' => e = .returned (.int .i64 (CrcR.crcOf 0 s)) ∧ w = w' := by
  go_enter Try.func12, Try.ntmps12
  go_wp2_with (first | (go_at_call 10; refine (CrcR.more_any _ (by omega) (by omega) _ _ hs).mono ?_; rintro e w' ⟨rfl, rfl⟩))
  go_ret
  exact ⟨rfl, rfl⟩

set_option maxRecDepth 100000 in
set_option maxHeartbeats 1000000 in
theorem sum_any (s : ByteArray) (w : World) (hs : s.size ≤ 8000) :
    Calls Try.prog 18 #[.string s] w fun e w' => e = .returned (.string ⟨(four (CrcR.crcOf 0 s)).toArray⟩) ∧ Below w.heap.size w w' := by
  obtain ⟨c, hc⟩ : ∃ c, CrcR.crcOf 0 s = c := ⟨_, rfl⟩
  have hr := CrcR.crc_rng 0 s
  have hcall := iCrc_small s w hs
  rw [hc] at hcall hr ⊢
  clear hc
  obtain ⟨h1, h2⟩ := hr
  go_enter Try.func18, Try.ntmps18
  go_wp2_with (first | (go_at_call 12; refine hcall.mono ?_; rintro e w' ⟨rfl, rfl⟩))
  go_loopw [8] (fun i wr => ∃ k : Nat, k ≤ 4 ∧ i = .int .i64 k ∧ wr = w.alloc (.cells (r4 c k) 48)) (fun i _ => 4 - (intOf i).toNat)
  case atStart => exact ⟨0, Nat.zero_le _, rfl, rfl⟩
  case round =>
    obtain ⟨k, hk, rfl, rfl⟩ := hrel
    rcases (by omega : k = 0 ∨ k = 1 ∨ k = 2 ∨ k = 3 ∨ k = 4) with rfl | rfl | rfl | rfl | rfl
    · have e : r4 c 0 = #[.int .u8 0, .int .u8 0, .int .u8 0, .int .u8 0] := rfl
      go_wp2
      go_roundw
      case rel => exact ⟨1, by omega, rfl, rfl⟩
      case measure => simp [intOf]
    · have e : r4 c 1 = #[.int .u8 (c % 256), .int .u8 0, .int .u8 0, .int .u8 0] := rfl
      go_wp2
      go_roundw
      case rel => exact ⟨2, by omega, rfl, rfl⟩
      case measure => simp [intOf]
    · have e : r4 c 2 = #[.int .u8 (c % 256), .int .u8 (c / 256 % 256), .int .u8 0, .int .u8 0] := rfl
      go_wp2
      go_roundw
      case rel => exact ⟨3, by omega, rfl, rfl⟩
      case measure => simp [intOf]
    · have e : r4 c 3 = #[.int .u8 (c % 256), .int .u8 (c / 256 % 256), .int .u8 (c / 65536 % 256), .int .u8 0] := rfl
      go_wp2
      go_roundw
      case rel => exact ⟨4, by omega, rfl, rfl⟩
      case measure => simp [intOf]
    · have e : r4 c 4 = #[.int .u8 (c % 256), .int .u8 (c / 256 % 256), .int .u8 (c / 65536 % 256), .int .u8 (c / 16777216)] := rfl
      have hcv := conv4 w 48 (c % 256) (c / 256 % 256) (c / 65536 % 256) (c / 16777216)
      go_wp2
      go_ret
      exact ⟨ret_str (four_eq h1 h2).symm, (Below.refl _ _).alloc (Nat.le_refl _) _⟩

theorem four_size (c : Int) : (⟨(four c).toArray⟩ : ByteArray).size = 4 := rfl
def sumB (s : ByteArray) : ByteArray := ⟨(four (CrcR.crcOf 0 s)).toArray⟩
theorem sumB_size (s : ByteArray) : (sumB s).size = 4 := rfl
def sealB (s : ByteArray) : ByteArray := if 7996 < s.size then ByteArray.empty else s ++ sumB s
theorem seal_yes {s : ByteArray} (h : ¬ 7996 < s.size) : sealB s = s ++ sumB s := if_neg h
theorem seal_no {s : ByteArray} (h : 7996 < s.size) : sealB s = ByteArray.empty := if_pos h
theorem cat_two (a b : ByteArray) : (⟨(cat [a, b]).toArray⟩ : ByteArray) = a ++ b := by
  apply ByteArray.ext
  apply Array.toList_inj.1
  simp [cat]
theorem joined_pair (a b : ByteArray) (w : World) (T : TypeId) (ha : a.size ≤ 8000) (hb : b.size ≤ 8000) :
    Calls Try.prog 17 #[.slice (some ⟨w.heap.size, 0, none⟩) 2 2] (w.alloc (.cells #[.string a, .string b] T)) fun e w' => e = .returned (.string (a ++ b)) ∧ Below (w.alloc (.cells #[.string a, .string b] T)).heap.size (w.alloc (.cells #[.string a, .string b] T)) w' := by
  rw [← cat_two]
  refine joined_any [a, b] w.heap.size _ (by simp) (fun j hj => ?_) (by simp [cat]; omega) (by simp)
  match j, hj with
  | 0, _ => simp
  | 1, _ => simp

set_option maxRecDepth 100000 in
set_option maxHeartbeats 400000 in
theorem sSeal_any (s : ByteArray) (w : World) (hs : s.size ≤ maxLen) :
    Calls Try.prog 6 #[.string s] w fun e w' => e = .returned (.string (sealB s)) ∧ Below w.heap.size w w' := by
  unfold maxLen at hs
  by_cases h : 7996 < s.size
  · go_enter Try.func6, Try.ntmps6
    go_wp2
    go_ret
    exact ⟨ret_str (seal_no h).symm, Below.refl _ _⟩
  · have hr := CrcR.crc_rng 0 s
    have h4 : ∀ w, Calls Try.prog 19 #[.int .i64 (CrcR.crcOf 0 s)] w fun e w' => e = .returned (.string (sumB s)) ∧ Below w.heap.size w w' := fun w => four_any _ hr.1 hr.2 w
    have hsz := sumB_size s
    clear hr
    go_enter Try.func6, Try.ntmps6
    go_wp2_with (first | (go_at_call 20; refine (CrcR.spec_any _ (by omega) (by omega) _ _ (by omega)).mono ?_; rintro e w0 ⟨rfl, hw0⟩; subst hw0) | (go_at_call 19; refine (h4 _).mono ?_; rintro e w1 ⟨rfl, hb1⟩))
    go_ret
    exact ⟨ret_str (seal_yes h).symm, hb1⟩

set_option maxRecDepth 100000 in
set_option maxHeartbeats 400000 in
theorem iSeal_any (s : ByteArray) (w : World) (hs : s.size ≤ maxLen) :
    Calls Try.prog 5 #[.string s] w fun e w' => e = .returned (.string (sealB s)) ∧ Below w.heap.size w w' := by
  unfold maxLen at hs
  by_cases h : 7996 < s.size
  · go_enter Try.func5, Try.ntmps5
    go_wp2
    go_ret
    exact ⟨ret_str (seal_no h).symm, Below.refl _ _⟩
  · have h4 : ∀ w, Calls Try.prog 18 #[.string s] w fun e w' => e = .returned (.string (sumB s)) ∧ Below w.heap.size w w' := fun w => sum_any s w (by omega)
    have hsz := sumB_size s
    go_enter Try.func5, Try.ntmps5
    go_wp2_with (first | (go_at_call 18; refine (h4 _).mono ?_; rintro e w1 ⟨rfl, hb1⟩) | (go_at_call 17; refine (joined_pair _ _ _ _ (by omega) (by omega)).mono ?_; rintro e w2 ⟨rfl, hb2⟩))
    go_ret
    exact ⟨ret_str (seal_yes h).symm, (hb1.alloc hb1.size _).trans (hb2.mono (by have := hb1.size; simp; omega))⟩
end Go.Proofs.Ythmofcckjakhkaa.NumR
