/- Proves what the harness does with rows of ops: copies, comparisons, marks. -/
import Derived.Test.YtfkgmkcndchkjaaGreatDoorOpH
import Derived.Test.YtfkgmkcndchkjaaGreatDoorOpL
namespace Go.Proofs.YtfkgmkcndchkjaaGreatDoor.OpR
open Go.ChangeShapes Go.WideShapes Go.ChangeAt Go.RowKit
set_option linter.unusedVariables false

/-- The first k of l, the rest zero. -/
def part (l : List OpV) (k : Nat) : List OpV := l.take k ++ List.replicate (l.length - k) OpV.zero
theorem part_len {l : List OpV} {k : Nat} (h : k ≤ l.length) : (part l k).length = l.length := by simp [part]; omega
theorem part_zero (l : List OpV) : part l 0 = List.replicate l.length OpV.zero := by simp [part]
theorem part_all (l : List OpV) : part l l.length = l := by simp [part]
theorem part_set {l : List OpV} {k : Nat} (h : k < l.length) : (part l k).set k l[k] = part l (k + 1) := by
  unfold part
  have hl : (l.take k).length = k := by rw [List.length_take]; omega
  rw [List.set_append_right _ _ (by omega), hl, Nat.sub_self, show l.length - k = (l.length - (k + 1)) + 1 by omega, List.replicate_succ, List.set_cons_zero]
  have e : l.take (k + 1) = l.take k ++ [l[k]] := by rw [List.take_add_one, List.getElem?_eq_getElem h]; rfl
  rw [e, List.append_assoc]; rfl

set_option maxRecDepth 100000 in
set_option maxHeartbeats 400000 in
theorem toOpS_any (l : List OpV) (ao : Option Addr) (cap : Nat) (w : World) (hl : l.length ≤ 1048576) (hA : OpsAt w ao l) :
    Calls Tryz.prog 36 #[.slice ao l.length cap] w fun e w' => e = .returned (.slice (some ⟨w.heap.size, 0, none⟩) l.length l.length) ∧ OpsIn w' w.heap.size 30 l ∧ Below w.heap.size w w' := by
  have HA : Hid (OpsAt w ao l) := ⟨hA⟩
  have hmk := make_ops l.length hl
  clear hA
  go_enter Tryz.func36, Tryz.ntmps36
  go_wp2
  go_loopw [4] (fun i wr => ∃ k : Nat, k ≤ l.length ∧ i = .int .i64 k ∧ OpsIn wr w.heap.size 30 (part l k) ∧ Below w.heap.size w wr) (fun i _ => l.length - (intOf i).toNat)
  case atStart => exact ⟨0, by omega, rfl, by rw [part_zero]; exact heap_alloc_new w _, (Below.refl _ _).alloc (Nat.le_refl _) _⟩
  case round =>
    obtain ⟨k, hk, rfl, hO, hb⟩ := hrel
    have HO : Hid (OpsIn wr w.heap.size 30 (part l k)) := ⟨hO⟩
    clear hO
    by_cases h : k < l.length
    · obtain ⟨b, off, rfl, hlt, ho⟩ := HA.out k h
      obtain ⟨c0, c1, c2, c3, c4, c5, c6⟩ := ho.block (w' := wr) (hb.block b hlt)
      have hcall := toOp_any l[k] wr
      unfold OpV.agg at hcall
      have hi0 : (0 : Int) ≤ (k : Int) := by omega
      have hi1 : (k : Int) < (l.length : Int) := by omega
      clear ho
      go_wp2_with (first | (go_at_call 31; refine hcall.mono ?_; rintro e w1 ⟨rfl, hb1⟩; obtain ⟨d0, d1, d2, d3, d4, d5, d6⟩ := (HO.out.stays hb1).opAt (k := k) (by rw [part_len hk]; exact h); have f0 := (HO.out.stays hb1).frozen (k * 7); have f1 := (HO.out.stays hb1).frozen (k * 7 + 1); have f2 := (HO.out.stays hb1).frozen (k * 7 + 2); have f3 := (HO.out.stays hb1).frozen (k * 7 + 3); have f4 := (HO.out.stays hb1).frozen (k * 7 + 4); have f5 := (HO.out.stays hb1).frozen (k * 7 + 5); have f6 := (HO.out.stays hb1).frozen (k * 7 + 6); clear c0 c1 c2 c3 c4 c5 c6))
      go_roundw
      case rel =>
        refine ⟨k + 1, by omega, by go_num, ?_, Below.store7 (hb.trans (hb1.mono hb.size)) (Nat.le_refl _) _ _ _ _ _ _ _ _ _ _ _ _ _ _⟩
        have hst := (HO.out.stays hb1).store (k := k) (by rw [part_len hk]; exact h) l[k]
        rw [part_set h] at hst
        exact hst
      case measure => simp [intOf]; omega
    · obtain rfl : k = l.length := by omega
      go_wp2
      go_ret
      have hO := HO.out
      rw [part_all] at hO
      exact ⟨rfl, hO, hb⟩

set_option maxRecDepth 100000 in
set_option maxHeartbeats 400000 in
theorem eqOpS_same (l : List OpV) (ao1 ao2 : Option Addr) (cap1 cap2 : Nat) (w : World) (hl : l.length ≤ maxLen) (hA : OpsAt w ao1 l) (hC : OpsAt w ao2 l) :
    Calls Tryz.prog 38 #[.slice ao1 l.length cap1, .slice ao2 l.length cap2] w fun e w' => e = .returned (.bool true) ∧ Below w.heap.size w w' := by
  unfold maxLen at hl
  have HA : Hid (OpsAt w ao1 l) := ⟨hA⟩
  have HC : Hid (OpsAt w ao2 l) := ⟨hC⟩
  clear hA hC
  go_enter Tryz.func38, Tryz.ntmps38
  go_wp2
  go_loopw [5] (fun i wr => ∃ k : Nat, k ≤ l.length ∧ i = .int .i64 k ∧ Below w.heap.size w wr) (fun i _ => l.length - (intOf i).toNat)
  case atStart => exact ⟨0, by omega, rfl, Below.refl _ _⟩
  case round =>
    obtain ⟨k, hk, rfl, hb⟩ := hrel
    by_cases h : k < l.length
    · obtain ⟨b, off, rfl, hlt, ho⟩ := HA.out k h
      obtain ⟨c0, c1, c2, c3, c4, c5, c6⟩ := ho.block (w' := wr) (hb.block b hlt)
      obtain ⟨b2, off2, rfl, hlt2, ho2⟩ := HC.out k h
      obtain ⟨d0, d1, d2, d3, d4, d5, d6⟩ := ho2.block (w' := wr) (hb.block b2 hlt2)
      have hcall := eqOp_same l[k] wr.drew
      unfold OpV.agg at hcall
      have hi0 : (0 : Int) ≤ (k : Int) := by omega
      have hi1 : (k : Int) < (l.length : Int) := by omega
      clear ho ho2
      go_wp2
      go_region_with (go_at_call 49; refine hcall.mono ?_; rintro e w1 ⟨rfl, hb1⟩)
      all_goals (
        go_wp2
        go_roundw
        case rel => exact ⟨k + 1, by omega, by go_num, hb.drew.trans (hb1.mono hb.size)⟩
        case measure => simp [intOf]; omega)
    · obtain rfl : k = l.length := by omega
      go_wp2
      go_ret
      exact ⟨rfl, hb⟩
end Go.Proofs.YtfkgmkcndchkjaaGreatDoor.OpR
