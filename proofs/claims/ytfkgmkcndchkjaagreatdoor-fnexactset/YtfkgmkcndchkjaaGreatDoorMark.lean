/- Proves what laws.markText tells: one text a number. -/
import Derived.Test.YtfkgmkcndchkjaaGreatDoorOpM
import Derived.Lib.ConvBytes
namespace Go.Proofs.YtfkgmkcndchkjaaGreatDoor.OpR
open Go.ChangeShapes Go.WideShapes Go.ChangeAt Go.RowKit
set_option linter.unusedVariables false

def digB (k : Nat) : ByteArray := ⟨#[UInt8.ofNat (48 + k % 10)]⟩
def dig : Nat → Nat → ByteArray → ByteArray
  | 0, _, out => out
  | f + 1, k, out => if k = 0 then out else dig f (k / 10) (digB k ++ out)
theorem dig_end {f : Nat} {out : ByteArray} : dig f 0 out = out := by cases f <;> simp [dig]
theorem dig_more {f k : Nat} {out : ByteArray} (h : ¬ k = 0) : dig (f + 1) k out = dig f (k / 10) (digB k ++ out) := if_neg h
theorem dig_fuel : ∀ (f g k : Nat) (out : ByteArray), k ≤ f → k ≤ g → dig f k out = dig g k out
  | 0, g, k, out, h1, h2 => by obtain rfl : k = 0 := by omega
                               rw [dig_end, dig_end]
  | f + 1, 0, k, out, h1, h2 => by obtain rfl : k = 0 := by omega
                                   rw [dig_end, dig_end]
  | f + 1, g + 1, k, out, h1, h2 => by
    by_cases h : k = 0
    · subst h; rw [dig_end, dig_end]
    · rw [dig_more h, dig_more h, dig_fuel f g (k / 10) _ (by omega) (by omega)]
theorem dig_step {k : Nat} {out : ByteArray} (h : ¬ k = 0) : dig k k out = dig (k / 10) (k / 10) (digB k ++ out) := by
  obtain ⟨f, rfl⟩ : ∃ f, k = f + 1 := ⟨k - 1, by omega⟩
  rw [dig_more h, dig_fuel f ((f + 1) / 10) _ _ (by omega) (Nat.le_refl _)]
/-- The text of a number. -/
def mt (k : Nat) : ByteArray := ⟨#[109]⟩ ++ dig k k ⟨#[]⟩

theorem conv1 (w : World) (T : TypeId) (x : Int) :
    (convert 132 9 (.slice (some ⟨w.heap.size, 0, none⟩) 1 1)).run Tryz.prog (w.alloc (.cells #[.int .u8 x] T)) = .ok (.string ⟨#[UInt8.ofNat x.toNat]⟩) (w.alloc (.cells #[.int .u8 x] T)) := by
  rw [run_convert_bytes_string _ 132 9 5 _ 1 1 Tryz.underlying132 Tryz.underlying5 Tryz.underlying9]
  have hl := run_loadCells_list (P := Tryz.prog) (w.alloc (.cells #[.int .u8 x] T)) ⟨w.heap.size, 0, none⟩ ([x].map (Value.int .u8)) (fun j v hj => by
    rw [Addr.add_lit, Nat.zero_add, World.cell?_alloc_at _ _ _ _ rfl]
    simpa using hj)
  rw [run_bytesToString _ ⟨w.heap.size, 0, none⟩ 1 1 [x] hl]
  rfl

set_option maxRecDepth 100000 in
set_option maxHeartbeats 400000 in
theorem markText_any (k : Nat) (hk : 0 < k) (hk2 : k ≤ 4503599627370496) (w : World) :
    Calls Tryz.prog 82 #[.int .i64 (k : Int)] w fun e w' => e = .returned (.string (mt k)) ∧ Below w.heap.size w w' := by
  go_enter Tryz.func82, Tryz.ntmps82
  go_wp2
  go_loopw [0, 3] (fun q o wr => ∃ (j : Nat) (out : ByteArray), q = .int .i64 j ∧ o = .string out ∧ j ≤ k ∧ out.size + j ≤ k ∧ dig j j out = dig k k ⟨#[]⟩ ∧ Below w.heap.size w wr) (fun q _ _ => (intOf q).toNat)
  case atStart => exact ⟨k, ⟨#[]⟩, rfl, rfl, by omega, by show 0 + k ≤ k; omega, rfl, Below.refl _ _⟩
  case round =>
    obtain ⟨j, out, rfl, rfl, hj, hs, hd, hb⟩ := hrel
    have HD : Hid (dig j j out = dig k k ⟨#[]⟩) := ⟨hd⟩
    clear hd
    by_cases h : j = 0
    · subst h
      go_wp2
      go_ret
      have hd := HD.out
      rw [dig_end] at hd
      exact ⟨by unfold mt; rw [← hd]; rfl, hb⟩
    · have hj0 : (0 : Int) < (j : Int) := by omega
      have hcv : (convert 132 9 (.slice (some ⟨wr.heap.size, 0, none⟩) 1 1)).run Tryz.prog (wr.alloc (.cells #[.int .u8 (48 + (j : Int) % 10)] 5)) = .ok (.string (digB j)) (wr.alloc (.cells #[.int .u8 (48 + (j : Int) % 10)] 5)) := by
        have h := conv1 wr 5 (48 + (j : Int) % 10)
        rw [show (48 + (j : Int) % 10).toNat = 48 + j % 10 by omega] at h
        exact h
      have hz : (digB j).size = 1 := rfl
      go_wp2
      go_roundw
      case rel =>
        refine ⟨j / 10, digB j ++ out, by go_num, rfl, by omega, ?_, ?_, hb.alloc hb.size _⟩
        · rw [ByteArray.size_append]
          show 1 + out.size + j / 10 ≤ k
          omega
        · rw [← HD.out, dig_step h]
      case measure => simp [intOf]; omega
end Go.Proofs.YtfkgmkcndchkjaaGreatDoor.OpR
