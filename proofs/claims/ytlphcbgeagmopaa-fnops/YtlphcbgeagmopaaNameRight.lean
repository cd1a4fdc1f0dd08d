/- Proves that at every text impl.NameRight answers as spec.NameRight does (the law FnExactNameRight returns true, and the text reads as it did); no condition. -/
import Derived.Test.YtlphcbgeagmopaaRows
import Derived.WalkKit
import Derived.WalkSpells
import Derived.WalkLawsBesides
import Derived.ProofKit
import Derived.Deep.Light
namespace Go.Proofs.Ytlphcbgeagmopaa.NameR
open Go.ChangeShapes Go.WideShapes Go.ChangeAt Go.RowKit Go.ChangeMaps
set_option linter.unusedVariables false

def letB (c : Int) : Bool := decide (97 ≤ c ∧ c ≤ 122)
def digB (c : Int) : Bool := decide (48 ≤ c ∧ c ≤ 57)
def okP (j : Nat) (c : Int) : Prop := (97 ≤ c ∧ c ≤ 122) ∨ (j ≠ 0 ∧ ((48 ≤ c ∧ c ≤ 57) ∨ c = 95))
def at0 (s : ByteArray) (j : Nat) : Int := (s.data.toList.getD j 0).toNat
def okB (j : Nat) (c : Int) : Bool := decide (97 ≤ c ∧ c ≤ 122) || (decide (j ≠ 0) && (decide (48 ≤ c ∧ c ≤ 57) || decide (c = 95)))
theorem okB_iff (j : Nat) (c : Int) : okB j c = true ↔ okP j c := by simp [okB, okP]
def okUp (s : ByteArray) (k : Nat) : Prop := ∀ j, j < k → okP j (at0 s j)
def okUpB (s : ByteArray) : Nat → Bool
  | 0 => true
  | k + 1 => okUpB s k && okB k (at0 s k)
theorem okUpB_iff (s : ByteArray) : ∀ k, okUpB s k = true ↔ okUp s k
  | 0 => ⟨fun _ j hj => absurd hj (by omega), fun _ => rfl⟩
  | k + 1 => by
    show (okUpB s k && okB k (at0 s k)) = true ↔ _
    rw [Bool.and_eq_true, okUpB_iff s k, okB_iff]
    constructor
    · intro ⟨h, hk⟩ j hj
      by_cases e : j = k
      · subst e; exact hk
      · exact h j (by omega)
    · intro h
      exact ⟨fun j hj => h j (by omega), h k (by omega)⟩
def nmB (s : ByteArray) : Bool := decide (1 ≤ s.size ∧ s.size ≤ 20) && okUpB s s.size
theorem nmB_iff (s : ByteArray) : nmB s = true ↔ 1 ≤ s.size ∧ s.size ≤ 20 ∧ okUp s s.size := by
  unfold nmB; rw [Bool.and_eq_true, decide_eq_true_iff, okUpB_iff, and_assoc]

theorem at0_eq (s : ByteArray) (j : Nat) (h : j < s.size) : at0 s j = (s[j].toNat : Int) := by
  unfold at0
  have h' : j < s.data.toList.length := by simpa using h
  simp only [List.getD_eq_getElem?_getD, List.getElem?_eq_getElem h', Option.getD_some]
  rfl

theorem okUp_succ {s : ByteArray} {k : Nat} (h : okUp s k) (hk : okP k (at0 s k)) : okUp s (k + 1) := by
  intro j hj
  by_cases e : j = k
  · subst e; exact hk
  · exact h j (by omega)

theorem nm_yes {s : ByteArray} (h1 : 1 ≤ s.size) (h2 : s.size ≤ 20) (h : okUp s s.size) : nmB s = true := (nmB_iff s).2 ⟨h1, h2, h⟩
theorem nm_size {s : ByteArray} (h : s.size < 1 ∨ 20 < s.size) : nmB s = false := by
  refine Bool.eq_false_iff.2 fun e => ?_
  have := (nmB_iff s).1 e
  omega
theorem nm_at {s : ByteArray} (k : Nat) (hk : k < s.size) (h : ¬ okP k (at0 s k)) : nmB s = false :=
  Bool.eq_false_iff.2 fun e => h (((nmB_iff s).1 e).2.2 k hk)

theorem ret_b {a b : Bool} (h : a = b) : Ending.returned (.bool a) = .returned (.bool b) := by rw [h]


set_option maxHeartbeats 400000 in
theorem letter_any (c : Int) (w : World) :
    Calls Try.prog 140 #[.int .u8 c] w fun e w' => e = .returned (.bool (letB c)) ∧ w' = w := by
  go_enter Try.func140, Try.ntmps140
  go_wp2
  all_goals go_ret
  all_goals exact ⟨ret_b (by unfold letB; simp <;> omega), rfl⟩

set_option maxHeartbeats 400000 in
theorem digit_any (c : Int) (w : World) :
    Calls Try.prog 141 #[.int .u8 c] w fun e w' => e = .returned (.bool (digB c)) ∧ w' = w := by
  go_enter Try.func141, Try.ntmps141
  go_wp2
  all_goals go_ret
  all_goals exact ⟨ret_b (by unfold digB; simp <;> omega), rfl⟩

set_option maxHeartbeats 1000000 in
theorem spec_any (s : ByteArray) (w : World) (hs : s.size ≤ maxLen) :
    Calls Try.prog 78 #[.string s] w fun e w' => e = .returned (.bool (nmB s)) ∧ w' = w := by
  unfold maxLen at hs
  by_cases h1 : s.size < 1
  · go_enter Try.func78, Try.ntmps78
    go_wp2
    go_ret
    exact ⟨ret_b (nm_size (.inl h1)).symm, rfl⟩
  by_cases h2 : 20 < s.size
  · go_enter Try.func78, Try.ntmps78
    go_wp2
    go_ret
    exact ⟨ret_b (nm_size (.inr h2)).symm, rfl⟩
  go_enter Try.func78, Try.ntmps78
  go_wp2
  go_loop [3] (fun i => ∃ k : Nat, k ≤ s.size ∧ i = .int .i64 k ∧ okUp s k) (fun i => s.size - (intOf i).toNat)
  case atStart => exact ⟨0, Nat.zero_le _, rfl, fun j hj => absurd hj (by omega)⟩
  case round =>
    obtain ⟨k, hk, rfl, hup⟩ := hrel
    by_cases hlt : k < s.size
    · have ha : Hid (at0 s k = (s[k].toNat : Int)) := at0_eq s k hlt
      by_cases hk0 : k = 0
      · subst hk0
        go_wp2
        all_goals first
          | (go_round
             case rel => exact ⟨0 + 1, by omega, by go_num, okUp_succ hup (by go_light; rw [ha.out]; unfold okP; simp at *; omega)⟩
             case measure => simp [intOf]; omega)
          | (go_ret
             exact ⟨ret_b (nm_at 0 hlt (by go_light; rw [ha.out]; unfold okP; simp at *; omega)).symm, rfl⟩)
      · go_wp2
        all_goals first
          | (go_round
             case rel => exact ⟨k + 1, by omega, by go_num, okUp_succ hup (by go_light; rw [ha.out]; unfold okP; simp at *; omega)⟩
             case measure => simp [intOf]; omega)
          | (go_ret
             exact ⟨ret_b (nm_at k hlt (by go_light; rw [ha.out]; unfold okP; simp at *; omega)).symm, rfl⟩)
    · go_wp2
      go_ret
      have e : k = s.size := by omega
      exact ⟨ret_b (nm_yes (by omega) (by omega) (e ▸ hup)).symm, rfl⟩

theorem let_yes {c : Int} (h : letB c = true) : 97 ≤ c ∧ c ≤ 122 := of_decide_eq_true h
theorem let_no {c : Int} (h : letB c = false) : ¬ (97 ≤ c ∧ c ≤ 122) := of_decide_eq_false h
theorem dig_yes {c : Int} (h : digB c = true) : 48 ≤ c ∧ c ≤ 57 := of_decide_eq_true h
theorem dig_no {c : Int} (h : digB c = false) : ¬ (48 ≤ c ∧ c ≤ 57) := of_decide_eq_false h

theorem ok_of {s : ByteArray} {k : Nat} {c : Int} (H3 : 97 ≤ at0 s 0 ∧ at0 s 0 ≤ 122) (ha : at0 s k = c) (h : letB c = true ∨ digB c = true ∨ (c != 95) = false) : okP k (at0 s k) := by
  by_cases e : k = 0
  · subst e; exact .inl H3
  · rw [ha]
    rcases h with h | h | h
    · exact .inl (let_yes h)
    · exact .inr ⟨e, .inl (dig_yes h)⟩
    · exact .inr ⟨e, .inr (by simpa using h)⟩
theorem no_of {s : ByteArray} {k : Nat} {c : Int} (ha : at0 s k = c) (h1 : letB c = false) (h2 : digB c = false) (h3 : (c != 95) = true) : ¬ okP k (at0 s k) := by
  rw [ha]
  have := let_no h1; have := dig_no h2
  have : c ≠ 95 := by simpa using h3
  unfold okP; omega

set_option maxHeartbeats 1000000 in
theorem impl_any (s : ByteArray) (w : World) (hs : s.size ≤ maxLen) :
    Calls Try.prog 116 #[.string s] w fun e w' => e = .returned (.bool (nmB s)) ∧ w' = w := by
  unfold maxLen at hs
  by_cases h1 : s.size < 1
  · go_enter Try.func116, Try.ntmps116
    go_wp2
    go_ret
    exact ⟨ret_b (nm_size (.inl h1)).symm, rfl⟩
  by_cases h2 : 20 < s.size
  · go_enter Try.func116, Try.ntmps116
    go_wp2
    go_ret
    exact ⟨ret_b (nm_size (.inr h2)).symm, rfl⟩
  have h0 : 0 < s.size := by omega
  by_cases h3 : letB (s[0].toNat : Int) = true
  · have H3 : Hid (97 ≤ at0 s 0 ∧ at0 s 0 ≤ 122) := by rw [at0_eq s 0 h0]; exact let_yes h3
    go_enter Try.func116, Try.ntmps116
    go_wp2_with (first | (go_at_call 140; refine (letter_any _ _).mono ?_; rintro e w' ⟨rfl, rfl⟩) | (go_at_call 141; refine (digit_any _ _).mono ?_; rintro e w' ⟨rfl, rfl⟩))
    go_loop [21] (fun i => ∃ k : Nat, k ≤ s.size ∧ i = .int .i64 k ∧ okUp s k) (fun i => s.size - (intOf i).toNat)
    case atStart => exact ⟨0, Nat.zero_le _, rfl, fun j hj => absurd hj (by omega)⟩
    case round =>
      obtain ⟨k, hk, rfl, hup⟩ := hrel
      by_cases hlt : k < s.size
      · have ha : Hid (at0 s k = (s[k].toNat : Int)) := at0_eq s k hlt
        cases hl : letB (s[k].toNat : Int) <;> cases hd : digB (s[k].toNat : Int)
        all_goals
          go_wp2_with (first | (go_at_call 140; refine (letter_any _ _).mono ?_; rintro e w' ⟨rfl, rfl⟩) | (go_at_call 141; refine (digit_any _ _).mono ?_; rintro e w' ⟨rfl, rfl⟩))
        all_goals first
          | (go_round
             case rel => exact ⟨k + 1, by omega, by go_num, okUp_succ hup (ok_of H3.out ha.out (by go_light; simp_all))⟩
             case measure => simp [intOf]; omega)
          | (go_ret
             exact ⟨ret_b (nm_at k hlt (no_of ha.out hl hd (by go_light; simp_all))).symm, rfl⟩)
      · go_wp2
        go_ret
        have e : k = s.size := by omega
        exact ⟨ret_b (nm_yes (by omega) (by omega) (e ▸ hup)).symm, rfl⟩
  · have H3 : ¬ okP 0 (at0 s 0) := by
      rw [at0_eq s 0 h0]
      have := let_no (Bool.eq_false_iff.mpr h3)
      unfold okP; omega
    have h3' : letB (s[0].toNat : Int) = false := Bool.eq_false_iff.mpr h3
    go_enter Try.func116, Try.ntmps116
    go_wp2_with (first | (go_at_call 140; refine (letter_any _ _).mono ?_; rintro e w' ⟨rfl, rfl⟩))
    go_ret
    exact ⟨ret_b (nm_at 0 h0 H3).symm, rfl⟩

end Go.Proofs.Ytlphcbgeagmopaa.NameR

namespace Go.Proofs.Ytlphcbgeagmopaa
open Go.ChangeShapes Go.WideShapes Go.ChangeAt Go.RowKit Go.ChangeMaps
end Go.Proofs.Ytlphcbgeagmopaa
