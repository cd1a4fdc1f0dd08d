/- Proves what spec.GetNum answers at every text and place. -/
import Derived.Test.YtlphcbgeagmopaaGetM
namespace Go.Proofs.Ytlphcbgeagmopaa.GetR
open Go.ChangeShapes Go.WideShapes Go.ChangeAt Go.RowKit Go.ChangeMaps
set_option linter.unusedVariables false

set_option maxRecDepth 100000 in
set_option maxHeartbeats 1000000 in
theorem sGet_in (s : ByteArray) (a : Nat) (w : World) (hs : s.size ≤ 8000) (ha : a < s.size) :
    Calls Try.prog 138 #[.string s, .int .i64 (a : Int)] w fun e w' => e = .returned (numOf (out s a)) ∧ Below w.heap.size w w' := by
  go_enter Try.func138, Try.ntmps138
  go_wp2
  go_loop [5, 6] (fun t i => ∃ (k : Nat) (u : Int), k ≤ 10 ∧ i = .int .i64 k ∧ t = .int .u64 u ∧ 0 ≤ u ∧ u < 2 ^ (7 * k) ∧ out s a = outF s a (10 - k) k u) (fun _ i => 10 - (intOf i).toNat)
  case atStart => exact ⟨0, 0, by omega, rfl, rfl, by omega, by decide, rfl⟩
  case round =>
    obtain ⟨k, u, hk, rfl, rfl, hu0, hu1, ho⟩ := hrel
    by_cases hk10 : k = 10
    · subst hk10
      clear hu1
      have HO : Hid (out s a = outF s a 0 10 u) := ho
      clear ho
      go_wp2
      exact bodyPost_ret (v := num 0 0 3) (by simp [results, Try.results138, go_sem, num]) rfl ⟨ret_num (num_fault HO.out (by decide)), (Below.refl _ _).alloc (Nat.le_refl _) _⟩
    · have hk9 : k ≤ 9 := by omega
      obtain ⟨f, hf⟩ : ∃ f, 10 - k = f + 1 := ⟨9 - k, by omega⟩
      have HU : Hid (u < 2 ^ (7 * k)) := hu1
      have HO : Hid (out s a = outF s a (f + 1) k u) := by rw [hf] at ho; exact ho
      have HF : Hid (f = 10 - (k + 1)) := by show _ = _; omega
      clear hu1 ho hf
      by_cases h1 : s.size ≤ a + k
      · go_wp2
        exact bodyPost_ret (v := num 0 0 4) (by simp [results, Try.results138, go_sem, num]) rfl ⟨ret_num (num_fault (HO.out.trans (out_short h1)) (by decide)), (Below.refl _ _).alloc (Nat.le_refl _) _⟩
      · have h1' : a + k < s.size := by omega
        obtain ⟨c, hc⟩ : ∃ c, at0 s (a + k) = c := ⟨_, rfl⟩
        have hidx : ((s[a + k]'h1').toNat : Int) = c := by rw [← hc]; exact (at0_eq s _ h1').symm
        have HC : Hid (at0 s (a + k) = c) := hc
        have hcr := at0_rng s (a + k)
        rw [hc] at hcr
        obtain ⟨hc0, hc255⟩ := hcr
        clear hc
        by_cases h9 : k = 9 ∧ 1 < c
        · obtain ⟨rfl, h9c⟩ := h9
          go_wp2
          exact bodyPost_ret (v := num 0 0 3) (by simp [results, Try.results138, go_sem, num]) rfl ⟨ret_num (num_fault (HO.out.trans (out_tenth h1 (by rw [HC.out]; exact ⟨rfl, h9c⟩))) (by decide)), (Below.refl _ _).alloc (Nat.le_refl _) _⟩
        · have H9 : Hid (¬ (k = 9 ∧ 1 < at0 s (a + k))) := by rw [HC.out]; exact h9
          have hX := addB_wrap hu0 HU.out hc0 hk9 h9
          have hV := addB_64 hu0 HU.out hc0 hk9 h9
          obtain ⟨v, hv⟩ : ∃ v, addB u c k = v := ⟨_, rfl⟩
          rw [hv] at hX hV
          have HV : Hid (addB u (at0 s (a + k)) k = v) := by rw [HC.out]; exact hv
          obtain ⟨hv0, hv1⟩ := hV
          by_cases hl : c < 128
          · by_cases h0 : c = 0 ∧ 0 < k
            · obtain ⟨rfl, hkp⟩ := h0
              have hfin : num 0 0 3 = numOf (out s a) := num_fault (HO.out.trans (out_long h1 H9.out (by rw [HC.out]; decide) ⟨HC.out, hkp⟩)) (by decide)
              clear hv h9 hX hv0 hv1 hc0 hc255
              by_cases hk9' : k = 9
              · subst hk9'
                go_wp2
                exact bodyPost_ret (v := num 0 0 3) (by simp [results, Try.results138, go_sem, num]) rfl ⟨ret_num hfin, (Below.refl _ _).alloc (Nat.le_refl _) _⟩
              · go_wp2
                all_goals exact bodyPost_ret (v := num 0 0 3) (by simp [results, Try.results138, go_sem, num]) rfl ⟨ret_num hfin, (Below.refl _ _).alloc (Nat.le_refl _) _⟩
            · have hfin : out s a = (v, ((a + k + 1 : Nat) : Int), 0) := (HO.out.trans (out_last h1 H9.out (by rw [HC.out]; exact hl) (by rw [HC.out]; exact h0))).trans (by rw [HV.out])
              have HFin : Hid (out s a = (v, ((a + k + 1 : Nat) : Int), 0)) := hfin
              clear hv h9 hfin
              have hcm : c % 128 = c := by omega
              rw [hcm] at hX
              by_cases hk9' : k = 9
              · subst hk9'
                have hc1 : c = 1 := by have := h0; have h9x := H9.out; rw [HC.out] at h9x; omega
                subst hc1
                have e9 : (2 : Int) ^ (7 * 9) = 9223372036854775808 := by decide
                have hu9 : u < 9223372036854775808 := by have := HU.out; rw [e9] at this; exact this
                have hvu : v = u + 9223372036854775808 := by have := HV.out; rw [HC.out] at this; unfold addB at this; rw [e9] at this; omega
                subst hvu
                clear hX e9 hcm H9 h0
                cases hp : ((u + 9223372036854775808) % 2 == 1)
                all_goals
                  go_wp2
                  first
                  | exact bodyPost_ret (v := num ((u + 9223372036854775808) / 2) ((a : Int) + 9 + 1) 0) (by simp [results, Try.results138, go_sem, num]) rfl ⟨ret_num (num_even (HFin.out.trans (by congr 1)) hp), (Below.refl _ _).alloc (Nat.le_refl _) _⟩
                  | exact bodyPost_ret (v := num (-((u + 9223372036854775808) / 2) - 1) ((a : Int) + 9 + 1) 0) (by simp [results, Try.results138, go_sem, num]) rfl ⟨ret_num (num_odd (HFin.out.trans (by congr 1)) hp), (Below.refl _ _).alloc (Nat.le_refl _) _⟩
              · clear H9
                cases hp : (v % 2 == 1)
                · go_wp2
                  all_goals exact bodyPost_ret (v := num (v / 2) ((a : Int) + k + 1) 0) (by simp [results, Try.results138, go_sem, num]) rfl ⟨ret_num (num_even (HFin.out.trans (by congr 1)) hp), (Below.refl _ _).alloc (Nat.le_refl _) _⟩
                · go_wp2
                  all_goals exact bodyPost_ret (v := num (-(v / 2) - 1) ((a : Int) + k + 1) 0) (by simp [results, Try.results138, go_sem, num]) rfl ⟨ret_num (num_odd (HFin.out.trans (by congr 1)) hp), (Below.refl _ _).alloc (Nat.le_refl _) _⟩
          · have hk8 : ¬ k = 9 := by omega
            clear hv h9
            go_wp2
            go_round
            case rel =>
              refine ⟨k + 1, v, by omega, by go_num, rfl, hv0, ?_, ?_⟩
              · rw [← HV.out, HC.out]; exact (addB_lt hu0 HU.out hc0).2
              · rw [HO.out, out_more h1 H9.out (by rw [HC.out]; omega), HV.out, HF.out]
            case measure => simp [intOf]; omega

set_option maxRecDepth 100000 in
set_option maxHeartbeats 400000 in
theorem sGet_past (s : ByteArray) (a : Int) (w : World) (hs : s.size ≤ 8000) (h0 : 0 ≤ a) (ha : (s.size : Int) ≤ a) :
    Calls Try.prog 138 #[.string s, .int .i64 a] w fun e w' => e = .returned (num 0 0 4) ∧ Below w.heap.size w w' := by
  go_enter Try.func138, Try.ntmps138
  go_wp2
  refine wp_loop_rounds 1 ?_
  rw [rounds_succ]
  go_wp2
  exact bodyPost_ret (v := num 0 0 4) (by simp [results, Try.results138, go_sem, num]) rfl ⟨rfl, (Below.refl _ _).alloc (Nat.le_refl _) _⟩
set_option maxRecDepth 100000 in
set_option maxHeartbeats 400000 in
theorem sGet_neg (s : ByteArray) (a : Int) (w : World) (hs : s.size ≤ 8000) (h0 : a < 0) :
    Calls Try.prog 138 #[.string s, .int .i64 a] w fun e w' => e = .returned (num 0 0 1) ∧ Below w.heap.size w w' := by
  go_enter Try.func138, Try.ntmps138
  go_wp2
  exact bodyPost_ret (v := num 0 0 1) (by simp [results, Try.results138, go_sem, num]) rfl ⟨rfl, (Below.refl _ _).alloc (Nat.le_refl _) _⟩
set_option maxRecDepth 100000 in
set_option maxHeartbeats 400000 in
theorem sGet_size (s : ByteArray) (a : Int) (w : World) (hm : s.size ≤ maxLen) (hs : 8000 < s.size) :
    Calls Try.prog 138 #[.string s, .int .i64 a] w fun e w' => e = .returned (num 0 0 2) ∧ Below w.heap.size w w' := by
  unfold maxLen at hm
  go_enter Try.func138, Try.ntmps138
  go_wp2
  exact bodyPost_ret (v := num 0 0 2) (by simp [results, Try.results138, go_sem, num]) rfl ⟨rfl, (Below.refl _ _).alloc (Nat.le_refl _) _⟩
end Go.Proofs.Ytlphcbgeagmopaa.GetR
