/- Proves that at every number and text impl.CrcMore answers as spec.CrcMore does (the law FnExactCrcMore returns true, and its arguments read as they did); no condition. -/
import Derived.Test.YthmofcckjakhkaaCrcW
namespace Go.Proofs.Ythmofcckjakhkaa.CrcR
open Go.ChangeShapes Go.WideShapes Go.ChangeAt Go.RowKit Go.ChangeMaps
set_option linter.unusedVariables false

def Wrong (crc : Int) (s : ByteArray) : Prop := 8000 < s.size ∨ crc < 0 ∨ 4294967295 < crc

set_option maxHeartbeats 400000 in
theorem sMore_no (crc : Int) (s : ByteArray) (w : World) (hs : s.size ≤ maxLen) (h : Wrong crc s) :
    Calls Try.prog 11 #[.int .i64 crc, .string s] w fun e w' => e = .returned (.int .i64 0) ∧ w' = w := by
  unfold maxLen at hs
  unfold Wrong at h
  by_cases h1 : 8000 < s.size
  · go_enter Try.func11, Try.ntmps11
    go_wp2
    go_ret
    exact ⟨rfl, rfl⟩
  by_cases h2 : crc < 0
  · go_enter Try.func11, Try.ntmps11
    go_wp2
    go_ret
    exact ⟨rfl, rfl⟩
  have h3 : 4294967295 < crc := by omega
  clear h
  go_enter Try.func11, Try.ntmps11
  go_wp2
  go_ret
  exact ⟨rfl, rfl⟩

set_option maxHeartbeats 400000 in
theorem sMore_any (crc : Int) (h1 : 0 ≤ crc) (h2 : crc ≤ 4294967295) (s : ByteArray) (w : World) (hs : s.size ≤ 8000) :
    Calls Try.prog 11 #[.int .i64 crc, .string s] w fun e w' => e = .returned (.int .i64 (crcOf crc s)) ∧ w' = w := by
  go_enter Try.func11, Try.ntmps11
  go_wp2_with (first | (go_at_call 20; refine (spec_any _ (by omega) (by omega) _ _ (by omega)).mono ?_; rintro e w' ⟨rfl, rfl⟩))
  go_ret
  exact ⟨rfl, rfl⟩

end Go.Proofs.Ythmofcckjakhkaa.CrcR

namespace Go.Proofs.Ythmofcckjakhkaa
open Go.ChangeShapes Go.WideShapes Go.ChangeAt Go.RowKit Go.ChangeMaps
end Go.Proofs.Ythmofcckjakhkaa
