/- Proves what spec.RowsRight and impl.RowsRight tell of rows: the same. -/
import Derived.Test.YtmidembbanlleagRwM
namespace Go.Proofs.Ytmidembbanlleag.OpR
open Go.ChangeShapes Go.WideShapes Go.ChangeAt Go.RowKit
set_option linter.unusedVariables false

def rowsRight (l : List PropV) : Bool := decide (l.length ≤ 150) && allTo l.length (propRise l)
def RowsR (l : List PropV) : Prop := l.length ≤ 150 ∧ ∀ i (h : i + 1 < l.length), keyLt l[i].key l[i + 1].key = true
theorem rowsRight_iff (l : List PropV) : rowsRight l = true ↔ RowsR l := by
  unfold rowsRight RowsR
  rw [Bool.and_eq_true, decide_eq_true_iff, propRise_iff]
theorem rowsRight_yes {l : List PropV} (h : RowsR l) : rowsRight l = true := (rowsRight_iff l).2 h
theorem rowsRight_no {l : List PropV} (h : ¬ RowsR l) : rowsRight l = false := bool_no (rowsRight_iff l) h
/-- The order of texts is of one way. -/
theorem rbl_asymm : ∀ {a b : List UInt8}, Op.bytesLess a b = true → Op.bytesLess b a = false
  | [], [], h => by simp [Op.bytesLess] at h
  | [], b :: bs, _ => rfl
  | a :: aa, [], h => by simp [Op.bytesLess] at h
  | a :: aa, b :: bs, h => by
    simp only [Op.bytesLess, Bool.or_eq_true, decide_eq_true_eq, Bool.and_eq_true, beq_iff_eq, Bool.or_eq_false_iff, decide_eq_false_iff_not, Bool.and_eq_false_iff, beq_eq_false_iff_ne, UInt8.lt_iff_toNat_lt] at *
    rcases h with h | ⟨rfl, h⟩
    · exact ⟨by omega, .inl fun e => by subst e; omega⟩
    · exact ⟨by omega, .inr (rbl_asymm h)⟩
theorem rbl_tri : ∀ {a b : List UInt8}, Op.bytesLess a b = false → Op.bytesLess b a = false → a = b
  | [], [], _, _ => rfl
  | [], b :: bs, h, _ => by simp [Op.bytesLess] at h
  | a :: aa, [], _, h => by simp [Op.bytesLess] at h
  | a :: aa, b :: bs, h1, h2 => by
    simp only [Op.bytesLess, Bool.or_eq_false_iff, decide_eq_false_iff_not, Bool.and_eq_false_iff, beq_eq_false_iff_ne, UInt8.lt_iff_toNat_lt] at *
    have e : a = b := UInt8.toNat_inj.1 (by omega)
    subst e
    rw [rbl_tri (h1.2.resolve_left (fun h => h rfl)) (h2.2.resolve_left (fun h => h rfl))]
theorem rbl_irrefl : ∀ a : List UInt8, Op.bytesLess a a = false
  | [] => rfl
  | x :: a => by simp [Op.bytesLess, rbl_irrefl a]

theorem toListR_inj {a b : ByteArray} (h : a.toList = b.toList) : a = b := by
  rw [ByteArray.toList_eq, ByteArray.toList_eq] at h
  exact ByteArray.ext (Array.toList_inj.1 h)
set_option maxRecDepth 100000 in
set_option maxHeartbeats 400000 in
theorem sRowsRight_any (l : List PropV) (ao : Option Addr) (cap : Nat) (w : World) (hl : l.length ≤ maxLen) (hA : PropsAt w ao l) :
    Calls Try.prog 7 #[.slice ao l.length cap] w fun e w' => e = .returned (.bool (rowsRight l)) ∧ Below w.heap.size w w' := by
  unfold maxLen at hl
  have HA : Hid (PropsAt w ao l) := ⟨hA⟩
  clear hA
  go_enter Try.func7, Try.ntmps7
  go_wp2
  go_loopw [3] (fun i wr => ∃ k : Nat, (k ≤ l.length ∨ k = 0) ∧ i = .int .i64 ((k : Int) + 1) ∧ (∀ j (h : j + 1 < l.length), j < k → keyLt l[j].key l[j + 1].key = true) ∧ Below w.heap.size w wr) (fun i _ => l.length - (intOf i).toNat)
  case atStart => exact ⟨0, .inr rfl, by go_num, fun j h hj => by omega, Below.refl _ _⟩
  case round =>
    obtain ⟨k, hk, rfl, hal, hb⟩ := hrel
    have HL : Hid (∀ j (h : j + 1 < l.length), j < k → keyLt l[j].key l[j + 1].key = true) := ⟨hal⟩
    clear hal hk
    by_cases h : k + 1 < l.length
    · obtain ⟨b, off, rfl, hlt, ho⟩ := HA.out (k + 1) h
      have hT : (((k : Int) + 1).toNat) = k + 1 := by omega
      have hi3 : (0 : Int) ≤ (k : Int) + 1 := by omega
      have hW : IntKind.i64.wrap (k : Int) = (k : Int) := by rw [IntKind.wrap_i64]; omega
      have hW2 : wrap64 (k : Int) = (k : Int) := by unfold wrap64; omega
      obtain ⟨c0, c1⟩ := ho.block (w' := wr) (hb.block b hlt)
      obtain ⟨b2, off2, hq, hlt2, ho2⟩ := HA.out k (by omega)
      cases hq
      obtain ⟨d0, d1⟩ := ho2.block (w' := wr) (hb.block b hlt)
      have hi0 : (0 : Int) ≤ (k : Int) := by omega
      have hi1 : (k : Int) + 1 < (l.length : Int) := by omega
      have hi2 : (k : Int) < (l.length : Int) := by omega
      clear ho ho2
      cases ha : keyLt l[k].key l[k + 1].key
      · have HF : Hid (rowsRight l = false) := ⟨rowsRight_no fun hr => by rw [hr.2 k h] at ha; cases ha⟩
        unfold keyLt at ha
        go_wp2
        go_region
        all_goals (go_wp2; go_ret; exact ⟨ret_bool (by rw [HF.out]), hb.drew⟩)
      · have HA2 := hide ha
        unfold keyLt at ha
        go_wp2
        go_region
        go_wp2
        go_roundw
        case rel =>
          refine ⟨k + 1, .inl (by omega), by go_num, fun j hj hjk => ?_, hb.drew⟩
          rcases Nat.lt_or_ge j k with h' | h'
          · exact HL.out j hj h'
          · obtain rfl : j = k := by omega
            exact HA2.out
        case measure => simp [intOf]; omega
    · by_cases h150 : l.length ≤ 150
      · have HF : Hid (rowsRight l = true) := ⟨rowsRight_yes ⟨h150, fun j hj => HL.out j hj (by omega)⟩⟩
        have hd : decide ((l.length : Int) ≤ 150) = true := by simp; omega
        go_wp2
        go_ret
        exact ⟨ret_bool (by rw [HF.out]), hb⟩
      · have HF : Hid (rowsRight l = false) := ⟨rowsRight_no fun hr => h150 hr.1⟩
        have hd : decide ((l.length : Int) ≤ 150) = false := by simp; omega
        go_wp2
        go_ret
        exact ⟨ret_bool (by rw [HF.out]), hb⟩
set_option maxRecDepth 100000 in
set_option maxHeartbeats 400000 in
theorem rowAhead_any (a b : PropV) (w : World) :
    Calls Try.prog 25 #[a.agg, b.agg] w fun e w' => e = .returned (.bool (keyLt a.key b.key)) ∧ Below w.heap.size w w' := by
  unfold PropV.agg
  go_enter Try.func25, Try.ntmps25
  go_wp2
  go_ret
  exact ⟨rfl, ((Below.refl _ _).alloc (Nat.le_refl _) _).alloc (by simp) _⟩
set_option maxRecDepth 100000 in
set_option maxHeartbeats 400000 in
theorem iRisesR_any (l : List PropV) (ao : Option Addr) (cap : Nat) (w : World) (hl : l.length ≤ maxLen) (hA : PropsAt w ao l) :
    Calls Try.prog 24 #[.slice ao l.length cap, .func (.func 25) #[] #[]] w fun e w' => e = .returned (.bool (allTo l.length (propRise l))) ∧ Below w.heap.size w w' := by
  unfold maxLen at hl
  have HA : Hid (PropsAt w ao l) := ⟨hA⟩
  clear hA
  go_enter Try.func24, Try.ntmps24
  go_wp2
  go_loopw [5] (fun i wr => ∃ k : Nat, (k ≤ l.length ∨ k = 0) ∧ i = .int .i64 ((k : Int) + 1) ∧ (∀ j (h : j + 1 < l.length), j < k → keyLt l[j].key l[j + 1].key = true) ∧ Below w.heap.size w wr) (fun i _ => l.length - (intOf i).toNat)
  case atStart => exact ⟨0, .inr rfl, by go_num, fun j h hj => by omega, Below.refl _ _⟩
  case round =>
    obtain ⟨k, hk, rfl, hal, hb⟩ := hrel
    have HL : Hid (∀ j (h : j + 1 < l.length), j < k → keyLt l[j].key l[j + 1].key = true) := ⟨hal⟩
    clear hal hk
    by_cases h : k + 1 < l.length
    · obtain ⟨b, off, rfl, hlt, ho⟩ := HA.out (k + 1) h
      have hT : (((k : Int) + 1).toNat) = k + 1 := by omega
      have hi3 : (0 : Int) ≤ (k : Int) + 1 := by omega
      have hW : IntKind.i64.wrap (k : Int) = (k : Int) := by rw [IntKind.wrap_i64]; omega
      have hW2 : wrap64 (k : Int) = (k : Int) := by unfold wrap64; omega
      obtain ⟨c0, c1⟩ := ho.block (w' := wr) (hb.block b hlt)
      obtain ⟨b2, off2, hq, hlt2, ho2⟩ := HA.out k (by omega)
      cases hq
      obtain ⟨d0, d1⟩ := ho2.block (w' := wr) (hb.block b hlt)
      have hcall := rowAhead_any l[k] l[k + 1] wr.drew
      unfold PropV.agg at hcall
      have hi0 : (0 : Int) ≤ (k : Int) := by omega
      have hi1 : (k : Int) + 1 < (l.length : Int) := by omega
      have hi2 : (k : Int) < (l.length : Int) := by omega
      clear ho ho2
      go_wp2
      go_region_with (go_at_call 25; refine hcall.mono ?_; rintro e w1 ⟨rfl, hb1⟩)
      all_goals (
        clear hcall c0 c1 d0 d1
        cases ha : keyLt l[k].key l[k + 1].key
        · have HF : Hid (allTo l.length (propRise l) = false) := ⟨bool_no (propRise_iff l) fun hr => by rw [hr k h] at ha; cases ha⟩
          go_wp2
          go_ret
          exact ⟨ret_bool (by rw [HF.out]), hb.drew.trans (hb1.mono hb.size)⟩
        · have HA2 := hide ha
          go_wp2
          go_roundw
          case rel =>
            refine ⟨k + 1, .inl (by omega), by go_num, fun j hj hjk => ?_, hb.drew.trans (hb1.mono hb.size)⟩
            rcases Nat.lt_or_ge j k with h' | h'
            · exact HL.out j hj h'
            · obtain rfl : j = k := by omega
              exact HA2.out
          case measure => simp [intOf]; omega)
    · have HF : Hid (allTo l.length (propRise l) = true) := ⟨(propRise_iff l).2 fun j hj => HL.out j hj (by omega)⟩
      go_wp2
      go_ret
      exact ⟨ret_bool (by rw [HF.out]), hb⟩

set_option maxRecDepth 100000 in
set_option maxHeartbeats 400000 in
theorem iRowsRight_any (l : List PropV) (ao : Option Addr) (cap : Nat) (w : World) (hl : l.length ≤ maxLen) (hA : PropsAt w ao l) :
    Calls Try.prog 9 #[.slice ao l.length cap] w fun e w' => e = .returned (.bool (rowsRight l)) ∧ Below w.heap.size w w' := by
  have hri := iRisesR_any l ao cap w hl hA
  unfold maxLen at hl
  clear hA
  by_cases h20 : l.length ≤ 150
  · have h20' : decide ((l.length : Int) ≤ 150) = true := by simp; omega
    cases hr : allTo l.length (propRise l)
    · have HF : Hid (rowsRight l = false) := ⟨rowsRight_no fun hp => by rw [(propRise_iff l).2 hp.2] at hr; cases hr⟩
      rw [hr] at hri
      go_enter Try.func9, Try.ntmps9
      go_wp2_with (first | (go_at_call 24; refine hri.mono ?_; rintro e w1 ⟨rfl, hb1⟩))
      go_ret
      exact ⟨ret_bool (by rw [HF.out]), hb1⟩
    · have HF : Hid (rowsRight l = true) := ⟨rowsRight_yes ⟨h20, (propRise_iff l).1 hr⟩⟩
      rw [hr] at hri
      go_enter Try.func9, Try.ntmps9
      go_wp2_with (first | (go_at_call 24; refine hri.mono ?_; rintro e w1 ⟨rfl, hb1⟩))
      go_ret
      exact ⟨ret_bool (by rw [HF.out]), hb1⟩
  · have HF : Hid (rowsRight l = false) := ⟨rowsRight_no fun hp => h20 hp.1⟩
    have h20' : decide ((l.length : Int) ≤ 150) = false := by simp; omega
    clear hri
    go_enter Try.func9, Try.ntmps9
    go_wp2
    go_ret
    exact ⟨ret_bool (by rw [HF.out]), Below.refl _ _⟩
end Go.Proofs.Ytmidembbanlleag.OpR
