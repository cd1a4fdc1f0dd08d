/- Proves the walk of the law FnNums: whatever is drawn, a number and a text are got back from their bytes, with the place behind them, and of bytes that end too early nothing is got. -/
import Derived.Test.YthmofcckjakhkaaDoorSrcN
import Derived.Test.YthmofcckjakhkaaDoorRoundW
namespace Go.Proofs.YthmofcckjakhkaaDoor.SrcR
open Go.ChangeShapes Go.WideShapes Go.ChangeAt Go.RowKit Go.ChangeMaps
set_option linter.unusedVariables false

theorem putText_small (u : ByteArray) : (NumR.putText u).size ≤ 8003 := by
  by_cases h : 8000 < u.size
  · rw [NumR.putText_no h]; decide
  · rw [GetR.putText_app h, ByteArray.size_append]
    have := NumR.putNum_size (n := (u.size : Int)) (by omega) (by omega)
    omega
theorem empty_list : ByteArray.empty.toList = [] := by
  rw [show ByteArray.empty.toList = ByteArray.empty.data.toList from by simp]; rfl
theorem text_two (u : ByteArray) : Hid ((NumR.putText u).toList.isEmpty = false → (NumR.putText u).size + 1 ≤ 8000 →
    (∀ w, Calls Tryd.prog 11 #[.string ({ data := #[120] } ++ NumR.putText u), .int .i64 1] w fun e w' => e = .returned (.agg #[.string u, .int .i64 (((NumR.putText u).size : Int) + 1), .int .i64 0]) ∧ Below w.heap.size w w') ∧
    (∀ w, w.cell? ⟨0, 0, none⟩ = some GetR.handle → Calls Tryd.prog 11 #[.string ((NumR.putText u).extract 0 ((NumR.putText u).size - 1)), .int .i64 0] w fun e w' => e = .returned (.agg #[.string ⟨#[]⟩, .int .i64 0, .int .i64 4]) ∧ Below w.heap.size w w') ∧ 1 ≤ (NumR.putText u).size) := fun he hp => by
  have hu : ¬ 8000 < u.size := fun h => by
    rw [NumR.putText_no h, empty_list] at he
    cases he
  refine ⟨fun w => GetR.text_back ⟨#[120]⟩ u rfl hu hp w, fun w hg => GetR.text_cut u hu (by omega) w hg, ?_⟩
  have := GetR.put_len (n := (u.size : Int)) (by omega) (by omega)
  rw [GetR.putText_app hu, ByteArray.size_append, GetR.put_size]
  omega

set_option maxRecDepth 100000 in
set_option maxHeartbeats 1000000 in
theorem law_nums (w : World) (ao1 : Option Addr) (len1 cap1 : Nat) (ao2 : Option Addr) (len2 cap2 : Nat) (hc1 : Code w ao1 len1) (hc2 : Code w ao2 len2) (hB1 : ∀ a, ao1 = some a → a.block < w.heap.size) (hB2 : ∀ a, ao2 = some a → a.block < w.heap.size)
    (hg : w.cell? ⟨0, 0, none⟩ = some GetR.handle) :
    Calls Tryd.prog 3 #[.slice ao1 len1 cap1, .slice ao2 len2 cap2] w fun e w' => e = .returned (.bool true) ∧ Below w.heap.size w w' := by
  have hl1 := hc1.1
  have hl2 := hc2.1
  have hd := drawNum_any w ao1 len1 cap1 hc1 hB1
  have HC2 : Hid (Code w ao2 len2) := hc2
  have HG : Hid (w.cell? ⟨0, 0, none⟩ = some GetR.handle) := hg
  clear hc1 hc2 hg
  go_enter Tryd.func3, Tryd.ntmps3
  go_wp2_with (first | (go_at_call 4; refine hd.mono ?_; rintro e w1 ⟨n, rfl, hn0, hn1, hb1⟩; have hI : ∀ w, Calls Tryd.prog 5 #[.int .i64 n] w fun e w' => e = .returned (.string (NumR.putNum n)) ∧ Below w.heap.size w w' := fun w => NumR.iPut_any n hn0 hn1 w; have hS : ∀ w, Calls Tryd.prog 6 #[.int .i64 n] w fun e w' => e = .returned (.string (NumR.putNum n)) ∧ Below w.heap.size w w' := fun w => NumR.sPut_any n hn0 hn1 w; obtain ⟨hz1, hz2⟩ : 1 ≤ (NumR.putNum n).size ∧ (NumR.putNum n).size ≤ 10 := GetR.put_len hn0 hn1) | (go_at_call 5; refine (hI _).mono ?_; rintro e w2 ⟨rfl, hb2⟩; have hb2' := hb1.trans (hb2.mono hb1.size); clear hI) | (go_at_call 6; refine (hS _).mono ?_; rintro e w3 ⟨rfl, hb3⟩; have hb3' := hb2'.trans (hb3.mono hb2'.size); clear hS))
  have hN1 : ∀ w, Calls Tryd.prog 7 #[.string ({ data := #[120, 121] } ++ NumR.putNum n ++ { data := #[122] }), .int .i64 2] w fun e w' => e = .returned (GetR.num n (((NumR.putNum n).size : Int) + 2) 0) ∧ Below w.heap.size w w' := fun w => GetR.get_back ⟨#[120, 121]⟩ ⟨#[122]⟩ n hn0 hn1 (by decide) w
  have hN2 := GetR.get_cut n hn0 hn1
  have HN2 : Hid (∀ w, w.cell? ⟨0, 0, none⟩ = some GetR.handle → Calls Tryd.prog 7 #[.string ((NumR.putNum n).extract 0 ((NumR.putNum n).size - 1)), .int .i64 0] w fun e w' => e = .returned (GetR.num 0 0 4) ∧ Below w.heap.size w w') := hN2
  unfold GetR.num at *
  clear hd hN2
  refine (hN1 w3).mono ?_
  rintro e w4 ⟨rfl, hb4⟩
  have hb4' := hb3'.trans (hb4.mono hb3'.size)
  clear hN1
  have hG2 := HN2.out (w4.alloc (.cells #[.int .i64 n, .int .i64 (((NumR.putNum n).size : Int) + 2), .int .i64 0] 26)) (GetR.handle_at (hb4'.alloc hb4'.size _) HG.out)
  have hb4a := hb4'.alloc hb4'.size (.cells #[.int .i64 n, .int .i64 (((NumR.putNum n).size : Int) + 2), .int .i64 0] 26)
  have hfd : ∀ (v0 v1 v2 : Value) (w : World), (Instr.field 26 (.agg #[v0, v1, v2]) 2).run Tryd.prog w = .ok v2 w := fun v0 v1 v2 w => by kernel_rfl
  have hfd2 : ∀ (v0 v1 v2 : Value) (w : World), (Instr.field 31 (.agg #[v0, v1, v2]) 2).run Tryd.prog w = .ok v2 w := fun v0 v1 v2 w => by kernel_rfl
  clear HN2
  go_wp2_with (first | (go_at_call 7; refine hG2.mono ?_; rintro e w5 ⟨rfl, hb5⟩; have hb5' := hb4a.trans (hb5.mono hb4a.size); have hDt := drawText_any w5 ao2 len2 cap2 (HC2.out.below hb5' hB2) (fun a ha => Nat.lt_of_lt_of_le (hB2 a ha) hb5'.size); clear hG2) | (go_at_call 8; refine hDt.mono ?_; rintro e w6 ⟨u, rfl, huz, hb6⟩; have hb6' := hb5'.trans (hb6.mono hb5'.size); have hPi := NumR.iText_any u w6 (by unfold maxLen; omega); clear hDt) | (go_at_call 9; refine hPi.mono ?_; rintro e w7 ⟨rfl, hb7⟩; have hb7' := hb6'.trans (hb7.mono hb6'.size); have hPs := NumR.sText_any u w7 (by unfold maxLen; omega); have hpz := putText_small u; have HL := text_two u; clear hPi) | (go_at_call 10; refine hPs.mono ?_; rintro e w8 ⟨rfl, hb8⟩; have hb8' := hb7'.trans (hb8.mono hb7'.size); have hPs2 := NumR.sText_any u w8 (by unfold maxLen; omega); clear hPs) | (go_at_call 10; refine hPs2.mono ?_; rintro e w11 ⟨rfl, hb11⟩; have hb11' := hb8'.trans (hb11.mono hb8'.size)) | (go_at_call 11; obtain ⟨hT1, hT2, hT3⟩ := HL.out (by assumption) (by omega); refine (hT1 _).mono ?_; rintro e w9 ⟨rfl, hb9⟩; have hb9' := hb8'.trans (hb9.mono hb8'.size); have hT4 := hT2 w9 (GetR.handle_at hb9' HG.out); clear hT1 hT2 HL) | (go_at_call 11; refine hT4.mono ?_; rintro e w10 ⟨rfl, hb10⟩; have hb10' := hb9'.trans (hb10.mono hb9'.size)))
  all_goals try (exfalso; omega)
  all_goals (go_ret; first | exact ⟨rfl, hb10'⟩ | exact ⟨rfl, hb11'⟩ | exact ⟨rfl, hb8'⟩)
end Go.Proofs.YthmofcckjakhkaaDoor.SrcR
