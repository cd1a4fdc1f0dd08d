/- Proves what strings.Compare, slices.BinarySearchFunc and impl.placeOf tell. -/
import Derived.Test.YtmidembbanlleagFlwM
import Derived.Lib.Bytealg
namespace Go.Proofs.Ytmidembbanlleag.OpR
open Go.ChangeShapes Go.WideShapes Go.ChangeAt Go.RowKit
set_option linter.unusedVariables false

def cmpK (a b : ByteArray) : Int := Lib.compareBytes a.data.toList b.data.toList
theorem cmpL_lt : ∀ a b : List UInt8, Lib.compareBytes a b < 0 ↔ Op.bytesLess a b = true
  | [], [] => by simp [Lib.compareBytes, Op.bytesLess]
  | [], _ :: _ => by simp [Lib.compareBytes, Op.bytesLess]
  | _ :: _, [] => by simp [Lib.compareBytes, Op.bytesLess]
  | a :: aa, b :: bs => by
    have ih := cmpL_lt aa bs
    simp only [Lib.compareBytes, Op.bytesLess, Bool.or_eq_true, decide_eq_true_eq, Bool.and_eq_true, beq_iff_eq]
    by_cases h1 : a < b
    · simp [h1]
    · by_cases h2 : b < a
      · have hne : ¬ a = b := fun e => h1 (by subst e; exact h2)
        simp [h1, h2, hne]
      · have e : a = b := by
          rw [UInt8.lt_iff_toNat_lt] at h1 h2
          exact UInt8.toNat_inj.1 (by omega)
        subst e
        simp [h1, ih]
theorem cmpL_zero : ∀ a b : List UInt8, Lib.compareBytes a b = 0 ↔ a = b
  | [], [] => by simp [Lib.compareBytes]
  | [], _ :: _ => by simp [Lib.compareBytes]
  | _ :: _, [] => by simp [Lib.compareBytes]
  | a :: aa, b :: bs => by
    have ih := cmpL_zero aa bs
    simp only [Lib.compareBytes, List.cons.injEq]
    by_cases h1 : a < b
    · have hne : ¬ a = b := fun e => by subst e; rw [UInt8.lt_iff_toNat_lt] at h1; omega
      simp [h1, hne]
    · by_cases h2 : b < a
      · have hne : ¬ a = b := fun e => h1 (by subst e; exact h2)
        simp [h1, h2, hne]
      · have e : a = b := by
          rw [UInt8.lt_iff_toNat_lt] at h1 h2
          exact UInt8.toNat_inj.1 (by omega)
        subst e
        simp [h1, ih]
theorem cmpK_lt (a b : ByteArray) : cmpK a b < 0 ↔ keyLt a b = true := by
  unfold cmpK keyLt
  rw [cmpL_lt, ByteArray.toList_eq, ByteArray.toList_eq]
theorem cmpK_zero (a b : ByteArray) : cmpK a b = 0 ↔ a = b := by
  unfold cmpK
  rw [cmpL_zero]
  exact ⟨fun h => ByteArray.ext (Array.toList_inj.1 h), fun h => by rw [h]⟩
set_option maxRecDepth 100000 in
set_option maxHeartbeats 1000000 in
theorem compareS_any (a b : ByteArray) (w : World) :
    Calls Try.prog 45 #[.string a, .string b] w fun e w' => e = .returned (.int .i64 (cmpK a b)) ∧ w' = w := by
  unfold cmpK
  go_enter Try.func45, Try.ntmps45
  go_wp2
  rw [run_callFunc_extern Try.func46 (by kernel_rfl) (by kernel_rfl) (by kernel_rfl) (e := Extern.BytealgCompare.compare) (by kernel_rfl), Lib.run_compareString]
  simp only [Result.andThen]
  rw [Oper.upon_value]
  go_wp2
  go_ret
  exact ⟨rfl, rfl⟩
set_option maxRecDepth 100000 in
set_option maxHeartbeats 1000000 in
theorem strCompare_any (a b : ByteArray) (w : World) :
    Calls Try.prog 44 #[.string a, .string b] w fun e w' => e = .returned (.int .i64 (cmpK a b)) ∧ w' = w := by
  go_enter Try.func44, Try.ntmps44
  go_wp2_with (first | (go_at_call 45; refine (compareS_any a b w).mono ?_; rintro e w1 ⟨rfl, rfl⟩))
  go_ret
  exact ⟨rfl, rfl⟩
set_option maxRecDepth 100000 in
set_option maxHeartbeats 1000000 in
theorem placeFn_any (r : PropV) (k : ByteArray) (w : World) :
    Calls Try.prog 43 #[r.agg, .string k] w fun e w' => e = .returned (.int .i64 (cmpK r.key k)) ∧ Below w.heap.size w w' := by
  unfold PropV.agg
  have hc := fun W => strCompare_any r.key k W
  go_enter Try.func43, Try.ntmps43
  go_wp2_with (first | (go_at_call 44; refine (hc _).mono ?_; rintro e w1 ⟨rfl, rfl⟩))
  go_ret
  exact ⟨rfl, (Below.refl _ _).alloc (Nat.le_refl _) _⟩
set_option maxRecDepth 100000 in
set_option maxHeartbeats 1000000 in
theorem bsearch_any (l : List PropV) (ao : Option Addr) (cap : Nat) (key : ByteArray) (w : World) (hl : l.length ≤ 150) (hR : RisesK l) (hA : PropsAt w ao l) :
    Calls Try.prog 42 #[.slice ao l.length cap, .string key, .func (.func 43) #[] #[]] w fun e w' => e = .returned (.tuple #[.int .i64 ((cutK key l : Nat) : Int), .bool (thereK key l)]) ∧ Below w.heap.size w w' := by
  have HA := hide hA
  have HR := hide hR
  clear hA hR
  go_enter Try.func42, Try.ntmps42
  go_wp2
  go_loopw [9, 10] (fun s9 s10 wr => ∃ lo hi : Nat, s9 = .int .i64 lo ∧ s10 = .int .i64 hi ∧ lo ≤ hi ∧ hi ≤ l.length ∧ Hid ((∀ t (h : t < l.length), t < lo → keyLt l[t].key key = true) ∧ (∀ t (h : t < l.length), hi ≤ t → keyLt l[t].key key = false)) ∧ Below w.heap.size w wr) (fun s9 s10 _ => (intOf s10).toNat - (intOf s9).toNat)
  case atStart => exact ⟨0, l.length, rfl, rfl, Nat.zero_le _, Nat.le_refl _, ⟨fun t h ht => by omega, fun t h ht => by omega⟩, Below.refl _ _⟩
  case round =>
    obtain ⟨lo, hi, rfl, rfl, hlh, hin, I, hb⟩ := hrel
    by_cases hlt : lo < hi
    · obtain ⟨m, hm, hm2⟩ : ∃ m : Nat, ((lo : Int) + (hi : Int)) / 2 = (m : Int) ∧ m = (lo + hi) / 2 := ⟨_, by omega, rfl⟩
      have hlm : lo ≤ m := by omega
      have hmh : m < hi := by omega
      clear hm2
      obtain ⟨b, off, rfl, hbl, ho⟩ := HA.out m (by omega)
      obtain ⟨c0, c1⟩ := ho.block (w' := wr) (hb.block b hbl)
      have hcall := fun W => placeFn_any l[m] key W
      unfold PropV.agg at hcall
      have hi0 : (0 : Int) ≤ (m : Int) := by omega
      have hi1 : (m : Int) < (l.length : Int) := by omega
      clear ho
      cases hk : keyLt l[m].key key
      · have hn : ¬ cmpK l[m].key key < 0 := fun h => by rw [cmpK_lt, hk] at h; cases h
        have I2 : Hid ((∀ t (h : t < l.length), t < lo → keyLt l[t].key key = true) ∧ (∀ t (h : t < l.length), m ≤ t → keyLt l[t].key key = false)) := ⟨I.out.1, fun t h ht => by
          rcases Nat.lt_or_ge m t with h2 | h2
          · cases e : keyLt l[t].key key with
            | false => rfl
            | true => rw [kr_trans (HR.out.lt m t h2 h) e] at hk; cases hk
          · obtain rfl : t = m := by omega
            exact hk⟩
        clear hk
        go_wp2_with (first | (go_at_call 43; refine (hcall _).mono ?_; rintro e w1 ⟨rfl, hb1⟩))
        go_roundw
        case rel => exact ⟨lo, m, rfl, rfl, hlm, by omega, I2, hb.trans (hb1.mono hb.size)⟩
        case measure => simp [intOf]; omega
      · have hn : cmpK l[m].key key < 0 := (cmpK_lt _ _).2 hk
        have I2 : Hid ((∀ t (h : t < l.length), t < m + 1 → keyLt l[t].key key = true) ∧ (∀ t (h : t < l.length), hi ≤ t → keyLt l[t].key key = false)) := ⟨fun t h ht => by
          rcases Nat.lt_or_ge t m with h2 | h2
          · exact kr_trans (HR.out.lt t m h2 (by omega)) hk
          · obtain rfl : t = m := by omega
            exact hk, I.out.2⟩
        clear hk
        go_wp2_with (first | (go_at_call 43; refine (hcall _).mono ?_; rintro e w1 ⟨rfl, hb1⟩))
        go_roundw
        case rel => exact ⟨m + 1, hi, by go_num, rfl, by omega, hin, I2, hb.trans (hb1.mono hb.size)⟩
        case measure => simp [intOf]; omega
    · obtain rfl : hi = lo := by omega
      have hcut : cutK key l = hi := cutK_is hin (fun t h ht => I.out.1 t h ht) (fun h => I.out.2 hi h (Nat.le_refl _))
      by_cases hend : hi < l.length
      · obtain ⟨b, off, rfl, hbl, ho⟩ := HA.out hi hend
        obtain ⟨c0, c1⟩ := ho.block (w' := wr) (hb.block b hbl)
        have hcall := fun W => placeFn_any l[hi] key W
        unfold PropV.agg at hcall
        have hi0 : (0 : Int) ≤ (hi : Int) := by omega
        have hi1 : (hi : Int) < (l.length : Int) := by omega
        clear ho
        by_cases he : l[hi].key = key
        · have HF := hide (thereK_yes hcut hend he)
          have HC := hide hcut
          have hz : cmpK l[hi].key key = 0 := (cmpK_zero _ _).2 he
          clear hcut he
          go_wp2_with (first | (go_at_call 43; refine (hcall _).mono ?_; rintro e w1 ⟨rfl, hb1⟩))
          all_goals (go_ret2; exact ⟨by rw [HF.out, HC.out]; first | rfl | (rw [← hz]; rfl), hb.trans (hb1.mono hb.size)⟩)
        · have HF := hide (thereK_no hcut fun _ => he)
          have HC := hide hcut
          have hz : (cmpK l[hi].key key == 0) = false := by rw [beq_eq_false_iff_ne]; exact fun h => he ((cmpK_zero _ _).1 h)
          clear hcut he
          go_wp2_with (first | (go_at_call 43; refine (hcall _).mono ?_; rintro e w1 ⟨rfl, hb1⟩))
          all_goals (go_ret2; exact ⟨by rw [HF.out, HC.out]; first | rfl | (rw [← hz]; rfl), hb.trans (hb1.mono hb.size)⟩)
      · have HF := hide (thereK_no hcut fun h => absurd h hend)
        have HC := hide hcut
        clear hcut
        go_wp2
        go_ret2
        exact ⟨by rw [HF.out, HC.out]; first | rfl | (rw [← hz]; rfl), hb⟩
set_option maxRecDepth 100000 in
set_option maxHeartbeats 1000000 in
theorem placeOf_any (l : List PropV) (ao : Option Addr) (cap : Nat) (key : ByteArray) (w : World) (hl : l.length ≤ 150) (hR : RisesK l) (hA : PropsAt w ao l) :
    Calls Try.prog 40 #[.slice ao l.length cap, .string key] w fun e w' => e = .returned (.tuple #[.int .i64 ((cutK key l : Nat) : Int), .bool (thereK key l)]) ∧ Below w.heap.size w w' := by
  have h := bsearch_any l ao cap key w hl hR hA
  clear hR hA
  go_enter Try.func40, Try.ntmps40
  go_wp2_with (first | (go_at_call 42; refine h.mono ?_; rintro e w1 ⟨rfl, hb1⟩))
  go_ret2
  exact ⟨rfl, hb1⟩
end Go.Proofs.Ytmidembbanlleag.OpR
