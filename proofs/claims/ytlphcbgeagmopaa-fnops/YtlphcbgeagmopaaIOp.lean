/- Proves what impl.OpRight tells of an op, and impl's tests of stamps and of rows of ops. -/
import Derived.Test.YtlphcbgeagmopaaOpY
namespace Go.Proofs.Ytlphcbgeagmopaa.OpR
open Go.ChangeShapes Go.WideShapes Go.ChangeAt Go.RowKit
set_option linter.unusedVariables false

set_option maxHeartbeats 400000 in
theorem repl_any (n : Int) (w : World) : Calls Try.prog 114 #[.int .i64 n] w fun e w' => e = .returned (.bool (isIn n 1 50)) ∧ w = w' := by
  go_enter Try.func114, Try.ntmps114
  go_wp2
  · go_ret; rename_i h; exact ⟨ret_bool (by simp [isIn, h]), rfl⟩
  · go_ret; rename_i h; exact ⟨ret_bool (by unfold isIn; rw [decide_eq_false (by omega)]; rfl), rfl⟩
set_option maxHeartbeats 400000 in
theorem iNode_any (n : Int) (w : World) : Calls Try.prog 115 #[.int .i64 n] w fun e w' => e = .returned (.bool (isIn n 2 1000000)) ∧ w = w' := by
  go_enter Try.func115, Try.ntmps115
  go_wp2
  · go_ret; rename_i h; exact ⟨ret_bool (by simp [isIn, h]), rfl⟩
  · go_ret; rename_i h; exact ⟨ret_bool (by unfold isIn; rw [decide_eq_false (by omega)]; rfl), rfl⟩
set_option maxRecDepth 100000 in
set_option maxHeartbeats 400000 in
theorem iOp_any (o : OpV) (w : World) (hn : o.name.size ≤ maxLen) (hv : o.value.size ≤ maxLen) :
    Calls Try.prog 66 #[o.agg] w fun e w' => e = .returned (.bool (opRight o)) ∧ Below w.heap.size w w' := by
  have hN := fun w => NameR.impl_any o.name w hn
  unfold maxLen at hv
  unfold OpV.agg
  go_enter Try.func66, Try.ntmps66
  go_wp2_with (first | (go_at_call 114; refine (repl_any _ _).mono ?_; rintro e w1 ⟨rfl, rfl⟩) | (go_at_call 115; refine (iNode_any _ _).mono ?_; rintro e w1 ⟨rfl, rfl⟩) | (go_at_call 116; refine (hN _).mono ?_; rintro e w1 ⟨rfl, hw1⟩))
  all_goals (go_ret; refine ⟨ret_bool ?_, (Below.refl _ _).alloc (Nat.le_refl _) _⟩; clear hN hn)
  all_goals (clear hv; first | (simp_all [opRight, kindRight, isIn]; done) | (simp_all [opRight, kindRight, isIn]; intros; first | omega | (simp_all; done) | (simp_all; omega)))

set_option maxRecDepth 100000 in
set_option maxHeartbeats 400000 in
theorem iAhead_any (a b : OpV) (w : World) :
    Calls Try.prog 48 #[a.agg, b.agg] w fun e w' => e = .returned (.bool (ahead a b)) ∧ Below w.heap.size w w' := by
  unfold OpV.agg
  go_enter Try.func48, Try.ntmps48
  go_wp2
  all_goals (go_ret; refine ⟨ret_bool ?_, ((Below.refl _ _).alloc (Nat.le_refl _) _).alloc (by simp) _⟩)
  all_goals (unfold ahead; simp_all; done)
set_option maxRecDepth 100000 in
set_option maxHeartbeats 400000 in
theorem iRises_any (l : List OpV) (ao : Option Addr) (cap : Nat) (w : World) (hl : l.length ≤ maxLen) (hA : OpsAt w ao l) :
    Calls Try.prog 57 #[.slice ao l.length cap] w fun e w' => e = .returned (.bool (rises l)) ∧ Below w.heap.size w w' := by
  unfold maxLen at hl
  have HA : Hid (OpsAt w ao l) := ⟨hA⟩
  clear hA
  go_enter Try.func57, Try.ntmps57
  go_wp2
  go_loopw [3] (fun i wr => ∃ k : Nat, (k ≤ l.length ∨ k = 0) ∧ i = .int .i64 ((k : Int) + 1) ∧ (∀ j (h : j + 1 < l.length), j < k → ahead l[j] l[j + 1] = true) ∧ Below w.heap.size w wr) (fun i _ => l.length - (intOf i).toNat)
  case atStart => exact ⟨0, .inr rfl, by go_num, fun j h hj => by omega, Below.refl _ _⟩
  case round =>
    obtain ⟨k, hk, rfl, hal, hb⟩ := hrel
    have HL : Hid (∀ j (h : j + 1 < l.length), j < k → ahead l[j] l[j + 1] = true) := ⟨hal⟩
    clear hal hk
    by_cases h : k + 1 < l.length
    · obtain ⟨b, off, rfl, hlt, ho⟩ := HA.out (k + 1) h
      have hT : (((k : Int) + 1).toNat) = k + 1 := by omega
      have hi3 : (0 : Int) ≤ (k : Int) + 1 := by omega
      have hW : IntKind.i64.wrap (k : Int) = (k : Int) := by rw [IntKind.wrap_i64]; omega
      have hW2 : wrap64 (k : Int) = (k : Int) := by unfold wrap64; omega
      obtain ⟨c0, c1, c2, c3, c4, c5, c6⟩ := ho.block (w' := wr) (hb.block b hlt)
      obtain ⟨b2, off2, hq, hlt2, ho2⟩ := HA.out k (by omega)
      cases hq
      obtain ⟨d0, d1, d2, d3, d4, d5, d6⟩ := ho2.block (w' := wr) (hb.block b hlt)
      have hcall := iAhead_any l[k] l[k + 1] wr.drew
      unfold OpV.agg at hcall
      have hi0 : (0 : Int) ≤ (k : Int) := by omega
      have hi1 : (k : Int) + 1 < (l.length : Int) := by omega
      have hi2 : (k : Int) < (l.length : Int) := by omega
      clear ho ho2
      go_wp2
      go_region_with (go_at_call 48; refine hcall.mono ?_; rintro e w1 ⟨rfl, hb1⟩)
      all_goals (
        clear hcall c0 c1 c2 c3 c4 c5 c6 d0 d1 d2 d3 d4 d5 d6
        cases ha : ahead l[k] l[k + 1]
        · go_wp2
          go_ret
          exact ⟨ret_bool (rises_no fun hr => by rw [hr k h] at ha; cases ha).symm, hb.drew.trans (hb1.mono hb.size)⟩
        · go_wp2
          go_roundw
          case rel =>
            refine ⟨k + 1, .inl (by omega), by go_num, fun j hj hjk => ?_, hb.drew.trans (hb1.mono hb.size)⟩
            rcases Nat.lt_or_ge j k with h' | h'
            · exact HL.out j hj h'
            · obtain rfl : j = k := by omega
              exact ha
          case measure => simp [intOf]; omega)
    · go_wp2
      go_ret
      exact ⟨ret_bool (rises_yes fun j hj => HL.out j hj (by omega)).symm, hb⟩

/-- What impl asks of each op of a row. -/
def EachR (l : List OpV) : Prop := l.length ≤ 150 ∧ ∀ i (h : i < l.length), opRight l[i] = true
def eachR (l : List OpV) : Bool := decide (l.length ≤ 150) && allRight l
theorem each_iff (l : List OpV) : eachR l = true ↔ EachR l := by
  unfold eachR EachR
  rw [Bool.and_eq_true, allRight_iff, decide_eq_true_iff]
theorem each_yes {l : List OpV} (h : EachR l) : eachR l = true := (each_iff l).2 h
theorem each_no {l : List OpV} (h : ¬ EachR l) : eachR l = false := bool_no (each_iff l) h
set_option maxRecDepth 100000 in
set_option maxHeartbeats 400000 in
theorem each_any (l : List OpV) (ao : Option Addr) (cap : Nat) (w : World) (hl : l.length ≤ maxLen) (hA : OpsAt w ao l) (hS : Sized l) :
    Calls Try.prog 56 #[.slice ao l.length cap] w fun e w' => e = .returned (.bool (eachR l)) ∧ Below w.heap.size w w' := by
  have hl' := hl
  unfold maxLen at hl
  have HA : Hid (OpsAt w ao l) := ⟨hA⟩
  have HS : Hid (Sized l) := ⟨hS⟩
  clear hA hS
  by_cases h150 : 150 < l.length
  · go_enter Try.func56, Try.ntmps56
    go_wp2
    go_ret
    exact ⟨ret_bool (each_no fun hh => by have := hh.1; omega).symm, Below.refl _ _⟩
  go_enter Try.func56, Try.ntmps56
  go_wp2
  go_loopw [10] (fun i wr => ∃ k : Nat, k ≤ l.length ∧ i = .int .i64 k ∧ (∀ j (h : j < l.length), j < k → opRight l[j] = true) ∧ Below w.heap.size w wr) (fun i _ => l.length - (intOf i).toNat)
  case atStart => exact ⟨0, by omega, rfl, fun j h hj => by omega, Below.refl _ _⟩
  case round =>
    obtain ⟨k, hk, rfl, hal, hb⟩ := hrel
    have HL : Hid (∀ j (h : j < l.length), j < k → opRight l[j] = true) := ⟨hal⟩
    clear hal
    by_cases h : k < l.length
    · obtain ⟨b, off, rfl, hlt, ho⟩ := HA.out k h
      obtain ⟨c0, c1, c2, c3, c4, c5, c6⟩ := ho.block (w' := wr) (hb.block b hlt)
      have hsz := HS.out _ (List.getElem_mem h)
      have hcall := fun w => iOp_any l[k] w hsz.1 hsz.2
      unfold OpV.agg at hcall
      have hi0 : (0 : Int) ≤ (k : Int) := by omega
      have hi1 : (k : Int) < (l.length : Int) := by omega
      clear ho hsz
      go_wp2_with (first | (go_at_call 66; refine (hcall _).mono ?_; rintro e w1 ⟨rfl, hb1⟩; clear c0 c1 c2 c3 c4 c5 c6 hcall))
      · go_ret
        rename_i hr
        exact ⟨ret_bool (each_no fun hh => by simp [hh.2 k h] at hr).symm, (hb.alloc hb.size _).trans (hb1.mono (by have := hb.size; simp; omega))⟩
      · rename_i hr
        go_roundw
        case rel =>
          refine ⟨k + 1, by omega, by go_num, fun j hj hjk => ?_, (hb.alloc hb.size _).trans (hb1.mono (by have := hb.size; simp; omega))⟩
          rcases Nat.lt_or_ge j k with h' | h'
          · exact HL.out j hj h'
          · obtain rfl : j = k := by omega
            simpa using hr
        case measure => simp [intOf]; omega
    · go_wp2
      go_ret
      exact ⟨ret_bool (each_yes ⟨by omega, fun i hi => HL.out i hi (by omega)⟩).symm, hb⟩
end Go.Proofs.Ytlphcbgeagmopaa.OpR
