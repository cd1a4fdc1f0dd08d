/- Proves what impl.readBits answers at every text and place. -/
import Derived.Test.YtlphcbgeagmopaaGetM
namespace Go.Proofs.Ytlphcbgeagmopaa.GetR
open Go.ChangeShapes Go.WideShapes Go.ChangeAt Go.RowKit Go.ChangeMaps
set_option linter.unusedVariables false

/-- At label 1 (more): k bytes are read. -/
def j1 (s : ByteArray) (a : Nat) (w : World) (a' : Act) (w' : World) : Prop := w' = w ∧ ∃ (k : Nat) (u : Int) (u9 u11 u12 u13 u14 u15 u16 u17 u18 u19 u20 u21 u22 u23 u24 u25 u26 u27 u28 u29 u30 u31 u32 u33 u34 u35 u36 u37 u38 u39 u40 u41 u42 u43 u44 u45 u46 u47 : Value), k ≤ 9 ∧ 0 ≤ u ∧ u < 2 ^ (7 * k) ∧ out s a = outF s a (10 - k) k u ∧ a' = { tmps := #[.string s, .int .i64 ((a : Int) + k), undef, undef, .int .u64 0, .int .i64 0, .nilIface, .int .u64 u, .int .u64 (7 * (k : Int)), u9, .int .i64 3, u11, u12, u13, u14, u15, u16, u17, u18, u19, u20, u21, u22, u23, u24, u25, u26, u27, u28, u29, u30, u31, u32, u33, u34, u35, u36, u37, u38, u39, u40, u41, u42, u43, u44, u45, u46, u47], defers := [] }
/-- At label 2 (last): the last byte is c. -/
def j2 (s : ByteArray) (a : Nat) (w : World) (a' : Act) (w' : World) : Prop := w' = w ∧ ∃ (k : Nat) (c v : Int) (u11 u12 u13 u14 u15 u16 u17 u18 u19 u20 u21 u22 u23 u24 u25 u26 u27 u28 u29 u30 u31 u32 u33 u34 u35 u36 u37 u38 u39 u40 u41 u42 u43 u44 u45 u46 u47 : Value), k ≤ 9 ∧ 0 ≤ c ∧ c < 128 ∧ (out s a = if c = 0 ∧ 0 < k then (0, 0, 3) else (v, ((a + k + 1 : Nat) : Int), 0)) ∧ a' = { tmps := #[.string s, .int .i64 ((a : Int) + k + 1), undef, undef, .int .u64 0, .int .i64 0, .nilIface, .int .u64 v, .int .u64 (7 * (k : Int)), .int .u8 c, .int .i64 3, u11, u12, u13, u14, u15, u16, u17, u18, u19, u20, u21, u22, u23, u24, u25, u26, u27, u28, u29, u30, u31, u32, u33, u34, u35, u36, u37, u38, u39, u40, u41, u42, u43, u44, u45, u46, u47], defers := [] }
/-- At label 0 (wrong): the code is known. -/
def j0 (s : ByteArray) (a : Nat) (w : World) (a' : Act) (w' : World) : Prop := w' = w ∧ ∃ (code : Int) (u1 u7 u8 u9 u11 u12 u13 u14 u15 u16 u17 u18 u19 u20 u21 u22 u23 u24 u25 u26 u27 u28 u29 u30 u31 u32 u33 u34 u35 u36 u37 u38 u39 u40 u41 u42 u43 u44 u45 u46 u47 : Value), code ≠ 0 ∧ out s a = (0, 0, code) ∧ a' = { tmps := #[.string s, u1, undef, undef, .int .u64 0, .int .i64 0, .nilIface, u7, u8, u9, .int .i64 code, u11, u12, u13, u14, u15, u16, u17, u18, u19, u20, u21, u22, u23, u24, u25, u26, u27, u28, u29, u30, u31, u32, u33, u34, u35, u36, u37, u38, u39, u40, u41, u42, u43, u44, u45, u46, u47], defers := [] }

theorem j1_mk {s : ByteArray} {a : Nat} {w : World} (k : Nat) (u x1 x8 : Int) (u9 u11 u12 u13 u14 u15 u16 u17 u18 u19 u20 u21 u22 u23 u24 u25 u26 u27 u28 u29 u30 u31 u32 u33 u34 u35 u36 u37 u38 u39 u40 u41 u42 u43 u44 u45 u46 u47 : Value) (hk : k ≤ 9) (h0 : 0 ≤ u) (h1 : u < 2 ^ (7 * k)) (ho : out s a = outF s a (10 - k) k u) (e1 : x1 = (a : Int) + k) (e8 : x8 = 7 * (k : Int)) :
    j1 s a w { tmps := #[.string s, .int .i64 x1, undef, undef, .int .u64 0, .int .i64 0, .nilIface, .int .u64 u, .int .u64 x8, u9, .int .i64 3, u11, u12, u13, u14, u15, u16, u17, u18, u19, u20, u21, u22, u23, u24, u25, u26, u27, u28, u29, u30, u31, u32, u33, u34, u35, u36, u37, u38, u39, u40, u41, u42, u43, u44, u45, u46, u47], defers := [] } w := by
  subst e1; subst e8
  exact ⟨rfl, k, u, u9, u11, u12, u13, u14, u15, u16, u17, u18, u19, u20, u21, u22, u23, u24, u25, u26, u27, u28, u29, u30, u31, u32, u33, u34, u35, u36, u37, u38, u39, u40, u41, u42, u43, u44, u45, u46, u47, hk, h0, h1, ho, rfl⟩

theorem ret_tup {x y : Value} (h : x = y) : Ending.returned x = .returned y := by rw [h]

set_option maxRecDepth 100000 in
set_option maxHeartbeats 2000000 in
theorem bits_in (s : ByteArray) (a : Nat) (w : World) (hs : s.size ≤ 8000) (ha : a < s.size) :
    Calls Try.prog 152 #[.string s, .int .i64 (a : Int)] w fun e w' => e = .returned (bitsOut 185 (out s a)) ∧ w' = w := by
  go_enter Try.func152, Try.ntmps152
  go_wp2
  refine wp_scope_three (j0 s a w) (j1 s a w) (j2 s a w) (fun a' _ => 9 - (intOf (a'.tmps.getD 8 undef)).toNat / 7) rfl rfl rfl ?first ?p1 ?p2 ?p0
  case p0 =>
    rintro a' w' ⟨rfl, code, u1, u7, u8, u9, u11, u12, u13, u14, u15, u16, u17, u18, u19, u20, u21, u22, u23, u24, u25, u26, u27, u28, u29, u30, u31, u32, u33, u34, u35, u36, u37, u38, u39, u40, u41, u42, u43, u44, u45, u46, u47, hne, ho, rfl⟩
    have HO : Hid (out s a = (0, 0, code)) := ho
    clear ho
    go_wp2
    simp only [jump3]
    go_ret3
    exact ⟨ret_tup (bits_fault HO.out hne), rfl⟩
  case p2 =>
    rintro a' w' ⟨rfl, k, c, v, u11, u12, u13, u14, u15, u16, u17, u18, u19, u20, u21, u22, u23, u24, u25, u26, u27, u28, u29, u30, u31, u32, u33, u34, u35, u36, u37, u38, u39, u40, u41, u42, u43, u44, u45, u46, u47, hk, hc0, hc1, ho, rfl⟩
    have HO : Hid (out s a = if c = 0 ∧ 0 < k then (0, 0, 3) else (v, ((a + k + 1 : Nat) : Int), 0)) := ho
    clear ho
    by_cases h0 : c = 0 ∧ 0 < k
    · have H3 : Hid (out s a = (0, 0, 3)) := HO.out.trans (if_pos h0)
      obtain ⟨rfl, hkp⟩ := h0
      clear HO
      go_wp2
      go_step3
      exact (show j0 s a _ _ _ from ⟨rfl, 3, _, _, _, _, _, _, _, _, _, _, _, _, _, _, _, _, _, _, _, _, _, _, _, _, _, _, _, _, _, _, _, _, _, _, _, _, _, _, _, _, _, by decide, H3.out, rfl⟩)
    · go_wp2
      all_goals
        simp only [jump3]
        go_ret3
        exact ⟨ret_tup ((bits_right (HO.out.trans (if_neg h0))).symm ▸ rfl), rfl⟩
  case first =>
    intro hp1
    go_wp2
    go_step3
    rename_i hK
    exact hK _ _ (hp1 _ _ (j1_mk 0 0 _ _ _ _ _ _ _ _ _ _ _ _ _ _ _ _ _ _ _ _ _ _ _ _ _ _ _ _ _ _ _ _ _ _ _ _ _ _ _ _ (by omega) (by omega) (by decide) rfl (by simp) rfl))
  case p1 =>
    rintro a' w' ⟨rfl, k, u, u9, u11, u12, u13, u14, u15, u16, u17, u18, u19, u20, u21, u22, u23, u24, u25, u26, u27, u28, u29, u30, u31, u32, u33, u34, u35, u36, u37, u38, u39, u40, u41, u42, u43, u44, u45, u46, u47, hk9, hu0, hu1, ho, rfl⟩
    obtain ⟨f, hf⟩ : ∃ f, 10 - k = f + 1 := ⟨9 - k, by omega⟩
    have HU : Hid (u < 2 ^ (7 * k)) := hu1
    have HO : Hid (out s a = outF s a (f + 1) k u) := by rw [hf] at ho; exact ho
    have HF : Hid (f = 10 - (k + 1)) := by show _ = _; omega
    clear hu1 ho hf
    by_cases h1 : s.size ≤ a + k
    · have H4 : Hid (out s a = (0, 0, 4)) := HO.out.trans (out_short h1)
      go_wp2
      go_step3
      exact (show j0 s a _ _ _ from ⟨rfl, 4, _, _, _, _, _, _, _, _, _, _, _, _, _, _, _, _, _, _, _, _, _, _, _, _, _, _, _, _, _, _, _, _, _, _, _, _, _, _, _, _, _, by decide, H4.out, rfl⟩)
    · have h1' : a + k < s.size := by omega
      obtain ⟨c, hc⟩ : ∃ c, at0 s (a + k) = c := ⟨_, rfl⟩
      have hidx : ((s[a + k]'h1').toNat : Int) = c := by rw [← hc]; exact (at0_eq s _ h1').symm
      have HC : Hid (at0 s (a + k) = c) := hc
      have hcr := at0_rng s (a + k)
      rw [hc] at hcr
      obtain ⟨hc0, hc255⟩ := hcr
      clear hc
      by_cases h9 : k = 9 ∧ 1 < c
      · obtain ⟨rfl, h9c⟩ := h9
        have H3 : Hid (out s a = (0, 0, 3)) := HO.out.trans (out_tenth h1 (by rw [HC.out]; exact ⟨rfl, h9c⟩))
        go_wp2
        go_step3
        exact (show j0 s a _ _ _ from ⟨rfl, 3, _, _, _, _, _, _, _, _, _, _, _, _, _, _, _, _, _, _, _, _, _, _, _, _, _, _, _, _, _, _, _, _, _, _, _, _, _, _, _, _, _, by decide, H3.out, rfl⟩)
      · have H9 : Hid (¬ (k = 9 ∧ 1 < at0 s (a + k))) := by rw [HC.out]; exact h9
        have hX := addB_or hu0 HU.out hc0 hk9 h9
        have hV := addB_64 hu0 HU.out hc0 hk9 h9
        obtain ⟨v, hv⟩ : ∃ v, addB u c k = v := ⟨_, rfl⟩
        rw [hv] at hX hV
        have HV : Hid (addB u (at0 s (a + k)) k = v) := by rw [HC.out]; exact hv
        obtain ⟨hv0, hv1⟩ := hV
        clear hv
        by_cases hl : c < 128
        · have H2 : Hid (out s a = if c = 0 ∧ 0 < k then (0, 0, 3) else (v, ((a + k + 1 : Nat) : Int), 0)) := by
            show _ = _
            rw [HO.out]
            by_cases h0 : c = 0 ∧ 0 < k
            · rw [if_pos h0, out_long h1 H9.out (by rw [HC.out]; exact hl) (by rw [HC.out]; exact h0)]
            · rw [if_neg h0, out_last h1 H9.out (by rw [HC.out]; exact hl) (by rw [HC.out]; exact h0), HV.out]
          have hcm : c % 128 = c := by omega
          rw [hcm] at hX
          by_cases hk9' : k = 9
          · subst hk9'
            have e9 : (2 : Int) ^ (7 * 9) = 9223372036854775808 := by decide
            rw [e9] at hX
            rcases (by omega : c = 0 ∨ c = 1) with rfl | rfl
            · have e0 : IntKind.u64.wrap (0 * 9223372036854775808) = 0 := by decide
              have e1 : IntKind.u64.wrap 0 = 0 := by decide
              rw [e0] at hX
              clear e9 e0 hcm h9
              go_wp2
              go_step3
              exact (show j2 s a _ _ _ from ⟨rfl, 9, 0, v, _, _, _, _, _, _, _, _, _, _, _, _, _, _, _, _, _, _, _, _, _, _, _, _, _, _, _, _, _, _, _, _, _, _, _, _, _, by omega, by omega, by omega, H2.out, rfl⟩)
            · have e0 : IntKind.u64.wrap (1 * 9223372036854775808) = 9223372036854775808 := by decide
              rw [e0] at hX
              clear e9 e0 hcm h9
              go_wp2
              go_step3
              exact (show j2 s a _ _ _ from ⟨rfl, 9, 1, v, _, _, _, _, _, _, _, _, _, _, _, _, _, _, _, _, _, _, _, _, _, _, _, _, _, _, _, _, _, _, _, _, _, _, _, _, _, by omega, by omega, by omega, H2.out, rfl⟩)
          · have h63 : ¬ (7 * (k : Int) = 63) := by omega
            clear h9
            go_wp2
            go_step3
            exact (show j2 s a _ _ _ from ⟨rfl, k, c, v, _, _, _, _, _, _, _, _, _, _, _, _, _, _, _, _, _, _, _, _, _, _, _, _, _, _, _, _, _, _, _, _, _, _, _, _, _, by omega, by omega, by omega, H2.out, rfl⟩)
        · have hk8 : k ≤ 8 := by omega
          have h63 : ¬ (7 * (k : Int) = 63) := by omega
          have H1 : Hid (out s a = outF s a (10 - (k + 1)) (k + 1) v) := by
            show _ = _
            rw [HO.out, out_more h1 H9.out (by rw [HC.out]; omega), HV.out, HF.out]
          have HV2 : Hid (v < 2 ^ (7 * (k + 1))) := by rw [← HV.out, HC.out]; exact (addB_lt hu0 HU.out hc0).2
          clear h9
          go_wp2
          go_step3
          exact (show _ ∧ _ from ⟨j1_mk (k + 1) v _ _ _ _ _ _ _ _ _ _ _ _ _ _ _ _ _ _ _ _ _ _ _ _ _ _ _ _ _ _ _ _ _ _ _ _ _ _ _ _ (by omega) hv0 HV2.out H1.out (by omega) (by omega), by simp [intOf]; omega⟩)

set_option maxRecDepth 100000 in
set_option maxHeartbeats 400000 in
theorem bits_past (s : ByteArray) (a : Int) (w : World) (hs : s.size ≤ 8000) (h0 : 0 ≤ a) (ha : (s.size : Int) ≤ a) :
    Calls Try.prog 152 #[.string s, .int .i64 a] w fun e w' => e = .returned (.tuple #[.int .u64 0, .int .i64 0, .iface 185 (.agg #[.int .i64 4])]) ∧ w' = w := by
  go_enter Try.func152, Try.ntmps152
  go_wp2
  refine wp_scope_three (fun a' w' => w' = w ∧ ∃ (u11 u12 u13 u14 u15 u16 u17 u18 u19 u20 u21 u22 u23 u24 u25 u26 u27 u28 u29 u30 u31 u32 u33 u34 u35 u36 u37 u38 u39 u40 u41 u42 u43 u44 u45 u46 u47 : Value), a' = { tmps := #[.string s, .int .i64 a, undef, undef, .int .u64 0, .int .i64 0, .nilIface, .int .u64 0, .int .u64 0, .int .u8 0, .int .i64 4, u11, u12, u13, u14, u15, u16, u17, u18, u19, u20, u21, u22, u23, u24, u25, u26, u27, u28, u29, u30, u31, u32, u33, u34, u35, u36, u37, u38, u39, u40, u41, u42, u43, u44, u45, u46, u47], defers := [] }) (fun _ _ => False) (fun _ _ => False) (fun _ _ => 0) rfl rfl rfl ?first (fun _ _ h => h.elim) (fun _ _ h => h.elim) ?p0
  case p0 =>
    rintro a' w' ⟨rfl, u11, u12, u13, u14, u15, u16, u17, u18, u19, u20, u21, u22, u23, u24, u25, u26, u27, u28, u29, u30, u31, u32, u33, u34, u35, u36, u37, u38, u39, u40, u41, u42, u43, u44, u45, u46, u47, rfl⟩
    go_wp2
    simp only [jump3]
    go_ret3
    exact ⟨rfl, rfl⟩
  case first =>
    intro _
    go_wp2
    go_step3
    go_wp2
    go_step3
    exact (show _ ∧ _ from ⟨rfl, _, _, _, _, _, _, _, _, _, _, _, _, _, _, _, _, _, _, _, _, _, _, _, _, _, _, _, _, _, _, _, _, _, _, _, _, _, rfl⟩)
end Go.Proofs.Ytlphcbgeagmopaa.GetR
