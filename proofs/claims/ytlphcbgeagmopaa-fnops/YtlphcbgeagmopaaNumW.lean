/- Proves what spec.l01Fold, spec.PutNum and impl.PutNum answer at every int64: the same bytes, in new memory alone. -/
import Derived.Test.YtlphcbgeagmopaaNumM
namespace Go.Proofs.Ytlphcbgeagmopaa.NumR
open Go.ChangeShapes Go.WideShapes Go.ChangeAt Go.RowKit
set_option linter.unusedVariables false

set_option maxHeartbeats 400000 in
theorem fold_any (n : Int) (h1 : -9223372036854775808 ≤ n) (h2 : n ≤ 9223372036854775807) (w : World) :
    Calls Try.prog 135 #[.int .i64 n] w fun e w' => e = .returned (.int .u64 (foldI n)) ∧ w = w' := by
  by_cases hn : n < 0
  · go_enter Try.func135, Try.ntmps135
    go_wp2
    go_ret
    exact ⟨ret_int (by rw [foldI_neg hn]; omega), rfl⟩
  · go_enter Try.func135, Try.ntmps135
    go_wp2
    go_ret
    exact ⟨ret_int (by rw [foldI_pos (by omega)]), rfl⟩

theorem info8 : (Try.prog.info? 5).map (fun i => (i.zero, i.size, i.bytes)) = some (some (.int .u8 0), 1, 1) := by kernel_rfl

theorem conv_own {w1 : World} {base g n cap : Nat} {l : List UInt8} (h : w1.ownsRow base 5 1 (.slice (some ⟨g, 0, none⟩) n cap) n (cellsOf l)) (hn : l.length = n) :
    (convert 22 9 (.slice (some ⟨g, 0, none⟩) n cap)).run Try.prog w1 = .ok (.string ⟨l.toArray⟩) w1 := by
  subst hn
  refine run_convert_bytes_back (P := Try.prog) w1 22 9 5 ⟨g, 0, none⟩ cap l Try.underlying22 Try.underlying5 Try.underlying9 fun j hj => ?_
  exact h.cells rfl j _ (by simp [cellsOf, hj])

set_option maxRecDepth 100000 in
set_option maxHeartbeats 400000 in
theorem sPut_any (n : Int) (h1 : -9223372036854775808 ≤ n) (h2 : n ≤ 9223372036854775807) (w : World) :
    Calls Try.prog 107 #[.int .i64 n] w fun e w' => e = .returned (.string ⟨(leb (foldI n).toNat).toArray⟩) ∧ Below w.heap.size w w' := by
  obtain ⟨i0, hi, hz0, hz1, hz2⟩ := info_parts info8
  obtain ⟨u, hu⟩ : ∃ u : Nat, foldI n = (u : Int) := ⟨(foldI n).toNat, by unfold foldI; split <;> omega⟩
  have hub : u < 18446744073709551616 := by
    have : foldI n < 18446744073709551616 := by (unfold foldI; split <;> omega)
    omega
  have hf : ∀ w, Calls Try.prog 135 #[.int .i64 n] w fun e w' => e = .returned (.int .u64 (u : Int)) ∧ w = w' := hu ▸ fold_any n h1 h2
  rw [show (foldI n).toNat = u by omega]
  clear hu
  go_enter Try.func107, Try.ntmps107
  go_wp2_with (first | (go_at_call 135; refine (hf _).mono ?_; rintro e w' ⟨rfl, rfl⟩))
  go_loopw [3, 4] (fun t v wr => ∃ (pre : List UInt8) (u' : Nat), t = .int .u64 (u' : Int) ∧ pre.length ≤ 9 ∧ u' * 128 ^ pre.length < 18446744073709551616 ∧ pre ++ leb u' = leb u ∧ wr.ownsRow w.heap.size 5 1 v pre.length (cellsOf pre) ∧ Below w.heap.size w wr) (fun t _ _ => (intOf t).toNat)
  case atStart => exact ⟨[], u, rfl, by simp, by simpa using hub, rfl, World.ownsRow_made _ _ 0 (Nat.le_refl _) (by decide) rfl, (Below.refl _ _).alloc (Nat.le_refl _) _⟩
  case round =>
    obtain ⟨pre, u', rfl, hl9, hpl, hleb, hown, hb⟩ := hrel
    have HL : Hid (pre ++ leb u' = leb u) := hleb
    have HP : Hid (u' * 128 ^ pre.length < 18446744073709551616) := hpl
    have hu' : u' < 18446744073709551616 := Nat.lt_of_le_of_lt (Nat.le_mul_of_pos_right _ (Nat.pow_pos (by decide))) hpl
    clear hleb hpl
    by_cases hlt : u' < 128
    · go_wp2_with (first | (at_builtin; refine wpList_append_lies _ rfl _ _ 22 rfl w.heap.size 5 i0 (.int .u8 0) 1 1 Try.underlying22 hi hz0 hz1 hz2 rfl (by decide) _ _ _ rfl (hown.alloc _) ⟨wr.heap.size, 0, none⟩ 1 1 [.int .u8 (u' : Int)] rfl rfl ?c1 ?c2 (by decide) ?c3 ?c4 ?c5 (wr.heap.size + 1) ?c6 ?_))
      case c1 => exact cell_one_new _ _ _
      case c2 => intro x hx; simp at hx; subst hx; rfl
      case c3 => unfold maxLen; omega
      case c4 => omega
      case c5 => have := hb.size; simp; omega
      case c6 => simp
      intro g cap w1 hown1 hgrow hat hlt1
      have hb1 : Below w.heap.size w w1 := (hb.alloc hb.size _).grown hgrow (by have := hb.size; simp; omega) (fun k hk => (hown.lt k hk).1)
      have hcv := conv_own (l := pre ++ [UInt8.ofNat u']) (with_cells hown1 (by rw [cellsOf_snoc, byte_lo hlt])) (by simp)
      clear hown1 hown hgrow
      go_wp2
      go_ret
      exact ⟨ret_str (by rw [← HL.out, leb_last hlt]), hb1⟩
    · go_wp2_with (first | (at_builtin; refine wpList_append_lies _ rfl _ _ 22 rfl w.heap.size 5 i0 (.int .u8 0) 1 1 Try.underlying22 hi hz0 hz1 hz2 rfl (by decide) _ _ _ rfl (hown.alloc _) ⟨wr.heap.size, 0, none⟩ 1 1 [.int .u8 ((u' : Int) % 128 + 128)] rfl rfl ?c1 ?c2 (by decide) ?c3 ?c4 ?c5 (wr.heap.size + 1) ?c6 ?_))
      case c1 => exact cell_one_new _ _ _
      case c2 => intro x hx; simp at hx; subst hx; rfl
      case c3 => unfold maxLen; omega
      case c4 => omega
      case c5 => have := hb.size; simp; omega
      case c6 => simp
      intro g cap w1 hown1 hgrow hat hlt1
      have hb1 : Below w.heap.size w w1 := (hb.alloc hb.size _).grown hgrow (by have := hb.size; simp; omega) (fun k hk => (hown.lt k hk).1)
      have hown2 := with_cells hown1 (ys := cellsOf (pre ++ [hiB u'])) (by rw [cellsOf_snoc, byte_hi])
      clear hown1 hown hgrow
      go_wp2
      go_roundw
      case rel => exact ⟨pre ++ [hiB u'], u' / 128, by go_num, by have := places HP.out hlt; simp; omega, by simpa using places_step HP.out, by rw [← HL.out, leb_more hlt, List.append_assoc]; rfl, by simpa using hown2, hb1⟩
      case measure => simp [intOf]; omega

theorem sl10 (W : World) (b k : Nat) (hk : k ≤ 9) : (Instr.sliceAt 139 (.pointer (some ⟨b, 0, none⟩)) none (some (.int .i64 ((k : Int) + 1))) none).run Try.prog W = .ok (.slice (some ⟨b, 0, none⟩) (k + 1) 10) W := by
  have ht : Try.prog.underlying 139 = some (.array (Try.prog.arrayLen 139) (Try.prog.elem 139)) := by kernel_rfl
  have hl : Try.prog.arrayLen 139 = 10 := by kernel_rfl
  have hs : ∀ w, (sizeOf (Try.prog.elem 139)).run Try.prog w = .ok 1 w := fun _ => by kernel_rfl
  rw [run_sliceAt_array_h W 139 ⟨b, 0, none⟩ ht .i64 _ (by omega) (by rw [hl]; omega), hs, hl]
  simp only [slicedAt, Result.andThen, Nat.sub_zero]
  have e : ((k : Int) + 1).toNat = k + 1 := by omega
  rw [e]
  simp [Addr.add]

theorem conv_arr (w : World) (l : List UInt8) (n : Nat) (hn : l.length = n) (h : l.length ≤ 10) :
    (convert 22 9 (.slice (some ⟨w.heap.size, 0, none⟩) n 10)).run Try.prog (w.alloc (.cells (arr l) 139)) = .ok (.string ⟨l.toArray⟩) (w.alloc (.cells (arr l) 139)) := by
  subst hn
  refine run_convert_bytes_back (P := Try.prog) _ 22 9 5 ⟨w.heap.size, 0, none⟩ 10 l Try.underlying22 Try.underlying5 Try.underlying9 fun j hj => ?_
  rw [Addr.add_lit, Nat.zero_add]
  simp only [arr, cellsOf, World.cell?_alloc_at, List.getElem?_toArray]
  rw [List.getElem?_append_left (by simpa using hj)]
  simp [hj]

set_option maxRecDepth 100000 in
set_option maxHeartbeats 400000 in
theorem iPut_any (n : Int) (h1 : -9223372036854775808 ≤ n) (h2 : n ≤ 9223372036854775807) (w : World) :
    Calls Try.prog 52 #[.int .i64 n] w fun e w' => e = .returned (.string ⟨(leb (foldI n).toNat).toArray⟩) ∧ Below w.heap.size w w' := by
  obtain ⟨u, hu⟩ : ∃ u : Nat, foldI n = (u : Int) := ⟨(foldI n).toNat, by unfold foldI; split <;> omega⟩
  have hub : u < 18446744073709551616 := by
    have : foldI n < 18446744073709551616 := by (unfold foldI; split <;> omega)
    omega
  have HU : Hid (foldI n = (u : Int)) := hu
  rw [show (foldI n).toNat = u by omega]
  clear hu
  go_enter Try.func52, Try.ntmps52
  go_wp2
  go_loopw [3, 5] (fun t i wr => ∃ (pre : List UInt8) (u' : Nat), t = .int .u64 (u' : Int) ∧ i = .int .i64 (pre.length : Int) ∧ pre.length ≤ 9 ∧ u' * 128 ^ pre.length < 18446744073709551616 ∧ pre ++ leb u' = leb u ∧ wr = w.alloc (.cells (arr pre) 139)) (fun t _ _ => (intOf t).toNat)
  case atStart => exact ⟨[], u, val_int (by rw [← HU.out]; exact fold_bits n h1 h2), rfl, by simp, by simpa using hub, rfl, rfl⟩
  case round =>
    obtain ⟨pre, u', rfl, rfl, hl9, hpl, hleb, rfl⟩ := hrel
    have HL : Hid (pre ++ leb u' = leb u) := hleb
    have HP : Hid (u' * 128 ^ pre.length < 18446744073709551616) := hpl
    have hu' : u' < 18446744073709551616 := Nat.lt_of_le_of_lt (Nat.le_mul_of_pos_right _ (Nat.pow_pos (by decide))) hpl
    clear hleb hpl
    have hat := arr_at hl9
    by_cases hlt : u' < 128
    · have hset := arr_set hl9 (UInt8.ofNat u') _ (byte_lo hlt)
      have hsl := fun W => sl10 W w.heap.size pre.length hl9
      have hcv := conv_arr w (pre ++ [UInt8.ofNat u']) (pre.length + 1) (by simp) (by simp; omega)
      go_wp2
      go_ret
      exact ⟨ret_str (by rw [← HL.out, leb_last hlt]), (Below.refl _ _).alloc (Nat.le_refl _) _⟩
    · have hset := arr_set hl9 (hiB u') _ (or_hi (u := u'))
      go_wp2
      go_roundw
      case rel => exact ⟨pre ++ [hiB u'], u' / 128, by go_num, val_int (by simp), by have := places HP.out hlt; simp; omega, by simpa using places_step HP.out, by rw [← HL.out, leb_more hlt, List.append_assoc]; rfl, rfl⟩
      case measure => simp [intOf]; omega
end Go.Proofs.Ytlphcbgeagmopaa.NumR
