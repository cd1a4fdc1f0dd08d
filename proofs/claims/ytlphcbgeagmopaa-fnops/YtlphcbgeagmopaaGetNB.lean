/- Proves what impl.readNum answers at every text and place. -/
import Derived.Test.YtlphcbgeagmopaaGetI
import Derived.Handy
namespace Go.Proofs.Ytlphcbgeagmopaa.GetR
open Go.ChangeShapes Go.WideShapes Go.ChangeAt Go.RowKit Go.ChangeMaps
set_option linter.unusedVariables false

def errT (c : Int) : Value := .iface 185 (.agg #[.int .i64 c])

set_option maxRecDepth 100000 in
set_option maxHeartbeats 400000 in
theorem num_right (s : ByteArray) (a : Nat) (w : World) (hs : s.size ≤ 8000) (ha : a < s.size) (u x : Int) (ho : out s a = (u, x, 0)) :
    Calls Try.prog 136 #[.string s, .int .i64 (a : Int)] w fun e w' => e = .returned (.tuple #[.int .i64 (dec u), .int .i64 x, .nilIface]) ∧ w' = w := by
  have hb := bits_in s a w hs ha
  rw [← bits_right ho] at hb
  have hr := out_rng s a (by omega)
  rw [ho] at hr
  obtain ⟨h0, h1, _⟩ := hr
  have e1 := and_one u h0 h1
  have e2 := dec_bits u h0 h1
  clear ho
  go_enter Try.func136, Try.ntmps136
  go_wp2_with (first | (go_at_call 152; refine hb.mono ?_; rintro e w0 ⟨rfl, rfl⟩))
  go_ret3
  exact ⟨rfl, rfl⟩

/-- readBits told a fault: readNum tells it on. -/
theorem num_of_fault (s : ByteArray) (a c : Int) (w : World) (hs : s.size ≤ 8000) (ha : 0 ≤ a)
    (hb : Calls Try.prog 152 #[.string s, .int .i64 a] w fun e w' => e = .returned (.tuple #[.int .u64 0, .int .i64 0, .iface 185 (.agg #[.int .i64 c])]) ∧ w' = w) :
    Calls Try.prog 136 #[.string s, .int .i64 a] w fun e w' => e = .returned (.tuple #[.int .i64 0, .int .i64 0, .iface 185 (.agg #[.int .i64 c])]) ∧ w' = w := by
  have e1 : bits .and .u64 0 1 = 0 := by decide
  have e2 : bits .xor .i64 0 0 = 0 := by decide
  go_enter Try.func136, Try.ntmps136
  go_wp2_with (first | (go_at_call 152; refine hb.mono ?_; rintro e w0 ⟨rfl, rfl⟩))
  go_ret3
  exact ⟨rfl, rfl⟩
theorem num_wrong (s : ByteArray) (a : Nat) (w : World) (hs : s.size ≤ 8000) (ha : a < s.size) (c : Int) (hc : c ≠ 0) (ho : out s a = (0, 0, c)) :
    Calls Try.prog 136 #[.string s, .int .i64 (a : Int)] w fun e w' => e = .returned (.tuple #[.int .i64 0, .int .i64 0, .iface 185 (.agg #[.int .i64 c])]) ∧ w' = w := by
  have hb := bits_in s a w hs ha
  rw [← bits_fault ho hc] at hb
  exact num_of_fault s a c w hs (by omega) hb
theorem num_past (s : ByteArray) (a : Int) (w : World) (hs : s.size ≤ 8000) (h0 : 0 ≤ a) (ha : (s.size : Int) ≤ a) :
    Calls Try.prog 136 #[.string s, .int .i64 a] w fun e w' => e = .returned (.tuple #[.int .i64 0, .int .i64 0, .iface 185 (.agg #[.int .i64 4])]) ∧ w' = w :=
  num_of_fault s a 4 w hs h0 (bits_past s a w hs h0 ha)
set_option maxHeartbeats 400000 in
theorem num_neg (s : ByteArray) (a : Int) (w : World) (hs : s.size ≤ 8000) (ha : a < 0) :
    Calls Try.prog 136 #[.string s, .int .i64 a] w fun e w' => e = .returned (.tuple #[.int .i64 0, .int .i64 0, .iface 185 (.agg #[.int .i64 1])]) ∧ w' = w := by
  go_enter Try.func136, Try.ntmps136
  go_wp2
  go_ret3
  exact ⟨rfl, rfl⟩
set_option maxHeartbeats 400000 in
theorem num_size (s : ByteArray) (a : Int) (w : World) (hm : s.size ≤ maxLen) (hs : 8000 < s.size) :
    Calls Try.prog 136 #[.string s, .int .i64 a] w fun e w' => e = .returned (.tuple #[.int .i64 0, .int .i64 0, .iface 185 (.agg #[.int .i64 2])]) ∧ w' = w := by
  unfold maxLen at hm
  go_enter Try.func136, Try.ntmps136
  go_wp2
  go_ret3
  exact ⟨rfl, rfl⟩

end Go.Proofs.Ytlphcbgeagmopaa.GetR
