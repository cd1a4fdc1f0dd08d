/- Proves what the draws of FnNums answer: a number of 64 bits; a text of at most 20001 bytes. -/
import Derived.Test.YthmofcckjakhkaaDoorSrcT
namespace Go.Proofs.YthmofcckjakhkaaDoor.SrcR
open Go.ChangeShapes Go.WideShapes Go.ChangeAt Go.RowKit Go.ChangeMaps
set_option linter.unusedVariables false

set_option maxRecDepth 100000 in
set_option maxHeartbeats 1000000 in
theorem l01Any_any (g : Nat) (w : World) (ao : Option Addr) (len cap : Nat) (hs : Src w g ao len cap) (hc : Code w ao len) (hB : ∀ a, ao = some a → a.block < w.heap.size ∧ a.block ≠ g) :
    Calls Tryd.prog 13 #[.pointer (some ⟨g, 0, none⟩)] w fun e w' => ∃ x : Int, e = .returned (.int .i64 x) ∧ -9223372036854775808 ≤ x ∧ x ≤ 9223372036854775807 ∧ Src w' g ao len cap ∧ w.grownBy w' (some g) := by
  have h1 := one_any g 4 w (by omega) (by omega) ao len cap hs hc
  have hlt := hs.lt
  have HC : Hid (Code w ao len) := hc
  clear hs hc
  go_enter Tryd.func13, Tryd.ntmps13
  go_wp2_with (first | (go_at_call 17; refine h1.mono ?_; rintro e w1 ⟨v, rfl, hs1, hg1⟩; have hc1 := HC.out.grown hg1 hB))
  · have hed := edge_any g w1 ao len cap hs1 hc1 (fun a ha => ⟨Nat.lt_of_lt_of_le (hB a ha).1 hg1.size, (hB a ha).2⟩)
    refine hed.mono ?_
    rintro e w2 ⟨x, rfl, hx0, hx1, hs2, hg2⟩
    go_wp2
    go_ret
    exact ⟨x, rfl, hx0, hx1, hs2, grown_trans hg1 hg2⟩
  · refine (n_any g 1099511627776 w1 (by omega) (by omega) ao len cap hs1 hc1).mono ?_
    rintro e w2 ⟨k, rfl, hk0, hk1, hs2, hg2⟩
    clear HC hc1
    go_wp2
    go_ret
    exact ⟨_, rfl, by omega, by omega, hs2, grown_trans hg1 hg2⟩

set_option maxRecDepth 100000 in
set_option maxHeartbeats 1000000 in
theorem drawNum_any (w : World) (ao : Option Addr) (len cap : Nat) (hc : Code w ao len) (hB : ∀ a, ao = some a → a.block < w.heap.size) :
    Calls Tryd.prog 4 #[.slice ao len cap] w fun e w' => ∃ x : Int, e = .returned (.int .i64 x) ∧ -9223372036854775808 ≤ x ∧ x ≤ 9223372036854775807 ∧ Below w.heap.size w w' := by
  have hs := source_any w ao len cap hc hB
  have HC : Hid (Code w ao len) := hc
  clear hc
  have HB : Hid (∀ wx : World, Below w.heap.size w wx → ∀ a, ao = some a → a.block < wx.heap.size ∧ a.block ≠ w.heap.size) := fun wx hb a ha => ⟨Nat.lt_of_lt_of_le (hB a ha) hb.size, Nat.ne_of_lt (hB a ha)⟩
  go_enter Tryd.func4, Tryd.ntmps4
  go_wp2_with (first | (go_at_call 12; refine hs.mono ?_; rintro e w1 ⟨rfl, hs1, hb1⟩; have h1 := l01Any_any w.heap.size w1 ao len cap hs1 (HC.out.below hb1 hB) (HB.out _ hb1)) | (go_at_call 13; refine h1.mono ?_; rintro e w2 ⟨x, rfl, hx0, hx1, hs2, hg2⟩))
  go_ret
  exact ⟨x, rfl, hx0, hx1, below_own hb1 hg2⟩

set_option maxRecDepth 100000 in
set_option maxHeartbeats 1000000 in
theorem drawText_any (w : World) (ao : Option Addr) (len cap : Nat) (hc : Code w ao len) (hB : ∀ a, ao = some a → a.block < w.heap.size) :
    Calls Tryd.prog 8 #[.slice ao len cap] w fun e w' => ∃ t : ByteArray, e = .returned (.string t) ∧ t.size ≤ 20001 ∧ Below w.heap.size w w' := by
  have hs := source_any w ao len cap hc hB
  have HC : Hid (Code w ao len) := hc
  have hmk : ∀ (k : Nat) (w : World), k ≤ 1000000 → (Instr.makeSlice 22 (.int .i64 (k : Int)) (.int .i64 (k : Int))).run Tryd.prog w = .ok (.slice (some ⟨w.heap.size, 0, none⟩) k k) (w.alloc (.cells (madeCells #[.int .u8 0] k) 5)) :=
    fun k w hk => run_make_row' 22 5 (.int .u8 0) 1 Tryd.underlying22 info8 rfl .i64 .i64 k (by omega) (by omega) w
  have HM : Hid (∀ (k : Nat) (w : World), k ≤ 1000000 → (Instr.makeSlice 22 (.int .i64 (k : Int)) (.int .i64 (k : Int))).run Tryd.prog w = .ok (.slice (some ⟨w.heap.size, 0, none⟩) k k) (w.alloc (.cells (madeCells #[.int .u8 0] k) 5))) := hmk
  clear hc hmk
  go_enter Tryd.func8, Tryd.ntmps8
  go_wp2_with (first | (go_at_call 12; refine hs.mono ?_; rintro e w1 ⟨rfl, hs1, hb1⟩; have h1 := one_any w.heap.size 8 w1 (by omega) (by omega) ao len cap hs1 (HC.out.below hb1 hB)) | (go_at_call 17; refine h1.mono ?_; rintro e w2 ⟨v, rfl, hs2, hg2⟩; have hb2 := below_own hb1 hg2))
  · refine (n_any w.heap.size 3 w2 (by omega) (by omega) ao len cap hs2 (HC.out.below hb2 hB)).mono ?_
    rintro e w3 ⟨k, rfl, hk0, hk1, hs3, hg3⟩
    have hb3 := below_own hb2 hg3
    obtain ⟨q, rfl⟩ : ∃ q : Nat, k = (q : Int) := ⟨k.toNat, by omega⟩
    have hm := HM.out (19999 + q) w3 (by omega)
    rw [show ((19999 + q : Nat) : Int) = 19999 + (q : Int) by omega] at hm
    have hcv := conv_made w3 (19999 + q)
    go_wp2
    go_ret
    exact ⟨_, rfl, by simp [ByteArray.size]; omega, hb3.alloc hb3.size _⟩
  · refine (n_any w.heap.size 20 w2 (by omega) (by omega) ao len cap hs2 (HC.out.below hb2 hB)).mono ?_
    rintro e w3 ⟨k, rfl, hk0, hk1, hs3, hg3⟩
    have hb3 := below_own hb2 hg3
    have hby := bytes_any w.heap.size k w3 hk0 (by omega) ao len cap hs3 (HC.out.below hb3 hB) (fun a ha => ⟨Nat.lt_of_lt_of_le (hB a ha) hb3.size, Nat.ne_of_lt (hB a ha)⟩)
    go_wp2_with (first | (go_at_call 19; refine hby.mono ?_; rintro e w4 ⟨l, rfl, hl, hs4, hg4⟩))
    go_ret
    exact ⟨_, rfl, by simp [ByteArray.size]; omega, below_own hb3 hg4⟩
end Go.Proofs.YthmofcckjakhkaaDoor.SrcR
