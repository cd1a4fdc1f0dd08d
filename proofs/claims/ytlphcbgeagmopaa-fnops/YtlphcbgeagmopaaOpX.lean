/- Proves what spec.OpRight tells of an op, and what the spec's tests of logs tell. -/
import Derived.Test.YtlphcbgeagmopaaOpL
import Derived.Test.YtlphcbgeagmopaaNameRight
namespace Go.Proofs.Ytlphcbgeagmopaa.OpR
open Go.ChangeShapes Go.WideShapes Go.ChangeAt Go.RowKit
set_option linter.unusedVariables false

def isIn (n lo hi : Int) : Bool := decide (lo ≤ n) && decide (n ≤ hi)
/-- What is asked of an op besides its name, by its kind. -/
def kindRight (o : OpV) : Bool := if o.kind = 1 then isIn o.parent 0 1000000 && o.value.toList.isEmpty else if o.kind = 2 then decide (o.parent = 0) && decide ((o.value.size : Int) ≤ 40) else false
def opRight (o : OpV) : Bool := isIn o.time 1 1000000 && isIn o.repl 1 50 && isIn o.node 2 1000000 && NameR.nmB o.name && kindRight o

theorem ret_bool {a b : Bool} (h : a = b) : Ending.returned (.bool a) = .returned (.bool b) := by rw [h]
set_option maxHeartbeats 400000 in
theorem is_any (n lo hi : Int) (w : World) : Calls Try.prog 105 #[.int .i64 n, .int .i64 lo, .int .i64 hi] w fun e w' => e = .returned (.bool (isIn n lo hi)) ∧ w = w' := by
  go_enter Try.func105, Try.ntmps105
  go_wp2
  · go_ret; rename_i h; exact ⟨ret_bool (by simp [isIn, h]), rfl⟩
  · go_ret; rename_i h; exact ⟨ret_bool (by unfold isIn; rw [decide_eq_false (by omega)]; rfl), rfl⟩
set_option maxHeartbeats 400000 in
theorem node_any (n : Int) (w : World) : Calls Try.prog 77 #[.int .i64 n] w fun e w' => e = .returned (.bool (isIn n 2 1000000)) ∧ w = w' := by
  go_enter Try.func77, Try.ntmps77
  go_wp2_with (first | (go_at_call 105; refine (is_any _ _ _ _).mono ?_; rintro e w1 ⟨rfl, rfl⟩))
  go_ret
  exact ⟨rfl, rfl⟩
set_option maxRecDepth 100000 in
set_option maxHeartbeats 400000 in
theorem sOp_any (o : OpV) (w : World) (hn : o.name.size ≤ maxLen) (hv : o.value.size ≤ maxLen) :
    Calls Try.prog 58 #[o.agg] w fun e w' => e = .returned (.bool (opRight o)) ∧ Below w.heap.size w w' := by
  have hN := fun w => NameR.spec_any o.name w hn
  unfold maxLen at hv
  unfold OpV.agg
  go_enter Try.func58, Try.ntmps58
  go_wp2_with (first | (go_at_call 105; refine (is_any _ _ _ _).mono ?_; rintro e w1 ⟨rfl, rfl⟩) | (go_at_call 77; refine (node_any _ _).mono ?_; rintro e w1 ⟨rfl, rfl⟩) | (go_at_call 78; refine (hN _).mono ?_; rintro e w1 ⟨rfl, hw1⟩))
  all_goals (go_ret; refine ⟨ret_bool ?_, (Below.refl _ _).alloc (Nat.le_refl _) _⟩; clear hN hn)
  all_goals (simp_all [opRight, kindRight]; done)

/-- Whether a stamp is ahead of another one. -/
def ahead (a b : OpV) : Bool := decide (a.time < b.time) || (decide (a.time = b.time) && decide (a.repl < b.repl))
def stamp (a b : OpV) : Bool := decide (a.time = b.time) && (a.repl == b.repl)
set_option maxRecDepth 100000 in
set_option maxHeartbeats 400000 in
theorem ahead_any (a b : OpV) (w : World) :
    Calls Try.prog 102 #[a.agg, b.agg] w fun e w' => e = .returned (.bool (ahead a b)) ∧ Below w.heap.size w w' := by
  unfold OpV.agg
  go_enter Try.func102, Try.ntmps102
  go_wp2
  all_goals (go_ret; refine ⟨ret_bool ?_, ((Below.refl _ _).alloc (Nat.le_refl _) _).alloc (by simp) _⟩)
  all_goals (unfold ahead; simp_all; done)
set_option maxRecDepth 100000 in
set_option maxHeartbeats 400000 in
theorem stamp_any (a b : OpV) (w : World) :
    Calls Try.prog 59 #[a.agg, b.agg] w fun e w' => e = .returned (.bool (stamp a b)) ∧ Below w.heap.size w w' := by
  unfold OpV.agg
  go_enter Try.func59, Try.ntmps59
  go_wp2
  all_goals (go_ret; refine ⟨ret_bool ?_, ((Below.refl _ _).alloc (Nat.le_refl _) _).alloc (by simp) _⟩)
  all_goals (unfold stamp; simp_all; done)

/-- Whether stamps rise. -/
def Rises (l : List OpV) : Prop := ∀ i (h : i + 1 < l.length), ahead l[i] l[i + 1] = true
/-- Whether the op behind the i-th is behind it in stamp. -/
def riseAt (l : List OpV) (i : Nat) : Bool := if h : i + 1 < l.length then ahead l[i] l[i + 1] else true
def rises (l : List OpV) : Bool := allTo l.length (riseAt l)
theorem rises_iff (l : List OpV) : rises l = true ↔ Rises l := by
  unfold rises
  rw [allTo_iff]
  constructor
  · intro h i hi
    have h1 := h i (by omega)
    unfold riseAt at h1
    rw [dif_pos hi] at h1
    exact h1
  · intro h i hi
    unfold riseAt
    by_cases h1 : i + 1 < l.length
    · rw [dif_pos h1]; exact h i h1
    · rw [dif_neg h1]
theorem rises_yes {l : List OpV} (h : Rises l) : rises l = true := (rises_iff l).2 h
theorem rises_no {l : List OpV} (h : ¬ Rises l) : rises l = false := bool_no (rises_iff l) h
/-- Whether each op is right. -/
def allRight (l : List OpV) : Bool := allTo l.length fun i => if h : i < l.length then opRight l[i] else true
theorem allRight_iff (l : List OpV) : allRight l = true ↔ ∀ i (h : i < l.length), opRight l[i] = true := by
  unfold allRight
  rw [allTo_iff]
  constructor
  · intro h i hi
    have h1 := h i hi
    rw [dif_pos hi] at h1
    exact h1
  · intro h i hi
    rw [dif_pos hi]
    exact h i hi

set_option maxRecDepth 100000 in
set_option maxHeartbeats 400000 in
theorem rises_any (l : List OpV) (ao : Option Addr) (cap : Nat) (w : World) (hl : l.length ≤ maxLen) (hA : OpsAt w ao l) :
    Calls Try.prog 98 #[.slice ao l.length cap] w fun e w' => e = .returned (.bool (rises l)) ∧ Below w.heap.size w w' := by
  unfold maxLen at hl
  have HA : Hid (OpsAt w ao l) := ⟨hA⟩
  clear hA
  go_enter Try.func98, Try.ntmps98
  go_wp2
  go_loopw [3] (fun i wr => ∃ k : Nat, (k ≤ l.length ∨ k = 0) ∧ i = .int .i64 ((k : Int) + 1) ∧ (∀ j (h : j + 1 < l.length), j < k → ahead l[j] l[j + 1] = true) ∧ Below w.heap.size w wr) (fun i _ => l.length - (intOf i).toNat)
  case atStart => exact ⟨0, .inr rfl, by go_num, fun j h hj => by omega, Below.refl _ _⟩
  case round =>
    obtain ⟨k, hk, rfl, hal, hb⟩ := hrel
    have HL : Hid (∀ j (h : j + 1 < l.length), j < k → ahead l[j] l[j + 1] = true) := ⟨hal⟩
    clear hal hk
    by_cases h : k + 1 < l.length
    · obtain ⟨b, off, rfl, hlt, ho⟩ := HA.out (k + 1) h
      have hT : (((k : Int) + 1).toNat) = k + 1 := by omega
      have hi3 : (0 : Int) ≤ (k : Int) + 1 := by omega
      have hW : IntKind.i64.wrap (k : Int) = (k : Int) := by rw [IntKind.wrap_i64]; omega
      have hW2 : wrap64 (k : Int) = (k : Int) := by unfold wrap64; omega
      obtain ⟨c0, c1, c2, c3, c4, c5, c6⟩ := ho.block (w' := wr) (hb.block b hlt)
      obtain ⟨b2, off2, hq, hlt2, ho2⟩ := HA.out k (by omega)
      cases hq
      obtain ⟨d0, d1, d2, d3, d4, d5, d6⟩ := ho2.block (w' := wr) (hb.block b hlt)
      have hcall := ahead_any l[k] l[k + 1] wr.drew
      unfold OpV.agg at hcall
      have hi0 : (0 : Int) ≤ (k : Int) := by omega
      have hi1 : (k : Int) + 1 < (l.length : Int) := by omega
      have hi2 : (k : Int) < (l.length : Int) := by omega
      clear ho ho2
      go_wp2
      go_region_with (go_at_call 102; refine hcall.mono ?_; rintro e w1 ⟨rfl, hb1⟩)
      all_goals (
        clear hcall c0 c1 c2 c3 c4 c5 c6 d0 d1 d2 d3 d4 d5 d6
        cases ha : ahead l[k] l[k + 1]
        · go_wp2
          go_ret
          exact ⟨ret_bool (rises_no fun hr => by rw [hr k h] at ha; cases ha).symm, hb.drew.trans (hb1.mono hb.size)⟩
        · go_wp2
          go_roundw
          case rel =>
            refine ⟨k + 1, .inl (by omega), by go_num, fun j hj hjk => ?_, hb.drew.trans (hb1.mono hb.size)⟩
            rcases Nat.lt_or_ge j k with h' | h'
            · exact HL.out j hj h'
            · obtain rfl : j = k := by omega
              exact ha
          case measure => simp [intOf]; omega)
    · go_wp2
      go_ret
      exact ⟨ret_bool (rises_yes fun j hj => HL.out j hj (by omega)).symm, hb⟩
end Go.Proofs.Ytlphcbgeagmopaa.OpR
