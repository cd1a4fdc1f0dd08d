/- Proves what spec's tests of logs and of lists of ops tell. -/
import Derived.Test.YtlphcbgeagmopaaOpX
namespace Go.Proofs.Ytlphcbgeagmopaa.OpR
open Go.ChangeShapes Go.WideShapes Go.ChangeAt Go.RowKit
set_option linter.unusedVariables false

/-- What every name and value of a row keeps to. -/
def Sized (l : List OpV) : Prop := ∀ o ∈ l, o.name.size ≤ maxLen ∧ o.value.size ≤ maxLen
def LogR (l : List OpV) : Prop := (∀ i (h : i < l.length), opRight l[i] = true) ∧ l.length ≤ 150 ∧ Rises l
def logRight (l : List OpV) : Bool := allRight l && (decide (l.length ≤ 150) && rises l)
theorem log_iff (l : List OpV) : logRight l = true ↔ LogR l := by
  unfold logRight LogR
  rw [Bool.and_eq_true, Bool.and_eq_true, allRight_iff, decide_eq_true_iff, rises_iff]
theorem log_yes {l : List OpV} (h : LogR l) : logRight l = true := (log_iff l).2 h
theorem log_no {l : List OpV} (h : ¬ LogR l) : logRight l = false := bool_no (log_iff l) h
theorem log_and {l : List OpV} (h : ∀ i (h : i < l.length), opRight l[i] = true) : logRight l = (decide (l.length ≤ 150) && rises l) := by
  by_cases h1 : l.length ≤ 150
  · by_cases h2 : Rises l
    · rw [log_yes ⟨h, h1, h2⟩, rises_yes h2, decide_eq_true h1]; rfl
    · rw [log_no fun hh => h2 hh.2.2, rises_no h2, decide_eq_true h1]; rfl
  · rw [log_no fun hh => h1 hh.2.1, decide_eq_false h1]; rfl

set_option maxRecDepth 100000 in
set_option maxHeartbeats 400000 in
theorem log_any (l : List OpV) (ao : Option Addr) (cap : Nat) (w : World) (hl : l.length ≤ maxLen) (hA : OpsAt w ao l) (hS : Sized l) :
    Calls Try.prog 50 #[.slice ao l.length cap] w fun e w' => e = .returned (.bool (logRight l)) ∧ Below w.heap.size w w' := by
  have hl' := hl
  unfold maxLen at hl
  have HA : Hid (OpsAt w ao l) := ⟨hA⟩
  have HS : Hid (Sized l) := ⟨hS⟩
  clear hA hS
  go_enter Try.func50, Try.ntmps50
  go_wp2
  go_loopw [3] (fun i wr => ∃ k : Nat, k ≤ l.length ∧ i = .int .i64 k ∧ (∀ j (h : j < l.length), j < k → opRight l[j] = true) ∧ Below w.heap.size w wr) (fun i _ => l.length - (intOf i).toNat)
  case atStart => exact ⟨0, by omega, rfl, fun j h hj => by omega, Below.refl _ _⟩
  case round =>
    obtain ⟨k, hk, rfl, hal, hb⟩ := hrel
    have HL : Hid (∀ j (h : j < l.length), j < k → opRight l[j] = true) := ⟨hal⟩
    clear hal
    by_cases h : k < l.length
    · obtain ⟨b, off, rfl, hlt, ho⟩ := HA.out k h
      obtain ⟨c0, c1, c2, c3, c4, c5, c6⟩ := ho.block (w' := wr) (hb.block b hlt)
      have hsz := HS.out _ (List.getElem_mem h)
      have hcall := sOp_any l[k] wr hsz.1 hsz.2
      unfold OpV.agg at hcall
      have hi0 : (0 : Int) ≤ (k : Int) := by omega
      have hi1 : (k : Int) < (l.length : Int) := by omega
      clear ho hsz
      go_wp2_with (first | (go_at_call 58; refine hcall.mono ?_; rintro e w1 ⟨rfl, hb1⟩; clear c0 c1 c2 c3 c4 c5 c6 hcall))
      · go_ret
        rename_i hr
        exact ⟨ret_bool (log_no fun hh => by simp [hh.1 k h] at hr).symm, hb.trans (hb1.mono hb.size)⟩
      · rename_i hr
        go_roundw
        case rel =>
          refine ⟨k + 1, by omega, by go_num, fun j hj hjk => ?_, hb.trans (hb1.mono hb.size)⟩
          rcases Nat.lt_or_ge j k with h' | h'
          · exact HL.out j hj h'
          · obtain rfl : j = k := by omega
            simpa using hr
        case measure => simp [intOf]; omega
    · have hrs := rises_any l ao cap wr hl' (HA.out.stays hb)
      have hland := log_and (l := l) (fun j hj => HL.out j hj (by omega))
      have HD : Hid (logRight l = (decide (l.length ≤ 150) && rises l)) := ⟨hland⟩
      clear hland
      go_wp2_with (first | (go_at_call 98; refine hrs.mono ?_; rintro e w1 ⟨rfl, hb1⟩))
      · go_ret
        rename_i h5 _ _
        exact ⟨ret_bool (by rw [HD.out, decide_eq_true (by omega)]; rfl), hb.trans (hb1.mono hb.size)⟩
      · go_ret
        exact ⟨ret_bool (by rw [HD.out, decide_eq_false (by omega)]; rfl), hb⟩

/-- What is asked of a list of ops. -/
def OpsR (l : List OpV) : Prop := l.length ≤ 150 ∧ (∀ i (h : i < l.length), opRight l[i] = true) ∧ ∀ i k (h : i < l.length) (hk : k < i), stamp l[k] l[i] = false
/-- Whether two places hold other stamps. -/
def apartAt (l : List OpV) (i k : Nat) : Bool := if h : i < l.length ∧ k < i then !stamp (l[k]'(Nat.lt_trans h.2 h.1)) (l[i]'h.1) else true
def allApart (l : List OpV) : Bool := allTo l.length fun i => allTo i (apartAt l i)
theorem allApart_iff (l : List OpV) : allApart l = true ↔ ∀ i k (h : i < l.length) (hk : k < i), stamp l[k] l[i] = false := by
  unfold allApart
  rw [allTo_iff]
  constructor
  · intro h i k hi hk
    have h1 := (allTo_iff _ _).1 (h i hi) k hk
    unfold apartAt at h1
    rw [dif_pos ⟨hi, hk⟩] at h1
    simpa using h1
  · intro h i hi
    rw [allTo_iff]
    intro k hk
    unfold apartAt
    rw [dif_pos ⟨hi, hk⟩, h i k hi hk]
    rfl
def opsRight (l : List OpV) : Bool := decide (l.length ≤ 150) && (allRight l && allApart l)
theorem ops_iff (l : List OpV) : opsRight l = true ↔ OpsR l := by
  unfold opsRight OpsR
  rw [Bool.and_eq_true, Bool.and_eq_true, allRight_iff, decide_eq_true_iff, allApart_iff]
theorem ops_yes {l : List OpV} (h : OpsR l) : opsRight l = true := (ops_iff l).2 h
theorem ops_no {l : List OpV} (h : ¬ OpsR l) : opsRight l = false := bool_no (ops_iff l) h

set_option maxRecDepth 100000 in
set_option maxHeartbeats 1000000 in
theorem sOps_any (l : List OpV) (ao : Option Addr) (cap : Nat) (w : World) (hl : l.length ≤ maxLen) (hA : OpsAt w ao l) (hS : Sized l) :
    Calls Try.prog 13 #[.slice ao l.length cap] w fun e w' => e = .returned (.bool (opsRight l)) ∧ Below w.heap.size w w' := by
  unfold maxLen at hl
  have HA : Hid (OpsAt w ao l) := ⟨hA⟩
  have HS : Hid (Sized l) := ⟨hS⟩
  clear hA hS
  by_cases h150 : 150 < l.length
  · go_enter Try.func13, Try.ntmps13
    go_wp2
    go_ret
    exact ⟨ret_bool (ops_no fun hh => by have := hh.1; omega).symm, Below.refl _ _⟩
  go_enter Try.func13, Try.ntmps13
  go_wp2
  go_loopw [3] (fun i wr => ∃ k : Nat, k ≤ l.length ∧ i = .int .i64 k ∧ (∀ j (h : j < l.length), j < k → opRight l[j] = true) ∧ (∀ i k' (h : i < l.length) (hk : k' < i), i < k → stamp l[k'] l[i] = false) ∧ Below w.heap.size w wr) (fun i _ => l.length - (intOf i).toNat)
  case atStart => exact ⟨0, by omega, rfl, fun j h hj => by omega, fun i k' h hk hi => by omega, Below.refl _ _⟩
  case round =>
    obtain ⟨k, hk, rfl, hal, hst, hb⟩ := hrel
    have HL : Hid (∀ j (h : j < l.length), j < k → opRight l[j] = true) := ⟨hal⟩
    have HT : Hid (∀ i k' (h : i < l.length) (hk : k' < i), i < k → stamp l[k'] l[i] = false) := ⟨hst⟩
    clear hal hst
    by_cases h : k < l.length
    · obtain ⟨b, off, rfl, hlt, ho⟩ := HA.out k h
      obtain ⟨c0, c1, c2, c3, c4, c5, c6⟩ := ho.block (w' := wr) (hb.block b hlt)
      have HO : Hid (OpAt w b (off + k * 7) l[k]) := ⟨ho⟩
      have hsz := HS.out _ (List.getElem_mem h)
      have hcall := sOp_any l[k] wr hsz.1 hsz.2
      unfold OpV.agg at hcall
      have hi0 : (0 : Int) ≤ (k : Int) := by omega
      have hi1 : (k : Int) < (l.length : Int) := by omega
      clear ho hsz
      go_wp2_with (first | (go_at_call 58; refine hcall.mono ?_; rintro e w1 ⟨rfl, hb1⟩; have hb1' := hb.trans (hb1.mono hb.size); clear c0 c1 c2 c3 c4 c5 c6 hcall))
      · go_ret
        rename_i hr
        exact ⟨ret_bool (ops_no fun hh => by simp [hh.2.1 k h] at hr).symm, hb1'⟩
      · rename_i hr
        have HR : Hid ((!opRight l[k]) = false) := ⟨hr⟩
        clear hr
        go_loopw [4] (fun q wi => ∃ j : Nat, j ≤ k ∧ q = .int .i64 j ∧ (∀ m (hm : m < k), m < j → stamp l[m] l[k] = false) ∧ Below w.heap.size w wi) (fun q _ => k - (intOf q).toNat)
        case atStart => exact ⟨0, by omega, rfl, fun m hm hj => by omega, hb1'⟩
        case round =>
          obtain ⟨j, hj, rfl, hsj, hbi⟩ := hrel
          have HJ : Hid (∀ m (hm : m < k), m < j → stamp l[m] l[k] = false) := ⟨hsj⟩
          clear hsj
          by_cases hjk : j < k
          · obtain ⟨c0, c1, c2, c3, c4, c5, c6⟩ := HO.out.block (w' := wr) (hbi.block b hlt)
            obtain ⟨b2, off2, hq, hlt2, ho2⟩ := HA.out j (by omega)
            cases hq
            obtain ⟨d0, d1, d2, d3, d4, d5, d6⟩ := ho2.block (w' := wr) (hbi.block b hlt)
            have hcall := stamp_any l[j] l[k] wr.drew
            unfold OpV.agg at hcall
            have hj0 : (0 : Int) ≤ (j : Int) := by omega
            have hj1 : (j : Int) < (l.length : Int) := by omega
            have hj2 : (j : Int) < (k : Int) := by omega
            clear ho2 hk hb hb1 hb1'
            go_wp2
            go_region_with (go_at_call 59; refine hcall.mono ?_; rintro e w2 ⟨rfl, hb2⟩)
            all_goals (
              clear hcall c0 c1 c2 c3 c4 c5 c6 d0 d1 d2 d3 d4 d5 d6
              cases ha : stamp l[j] l[k]
              · go_wp2
                go_roundw
                case rel =>
                  refine ⟨j + 1, by omega, by go_num, fun m hm hmj => ?_, hbi.drew.trans (hb2.mono hbi.size)⟩
                  rcases Nat.lt_or_ge m j with h' | h'
                  · exact HJ.out m hm h'
                  · obtain rfl : m = j := by omega
                    exact ha
                case measure => simp [intOf]; omega
              · go_wp2
                go_ret
                exact ⟨ret_bool (ops_no fun hh => by rw [hh.2.2 k j h hjk] at ha; cases ha).symm, hbi.drew.trans (hb2.mono hbi.size)⟩)
          · go_wp2
            go_roundw
            case rel =>
              refine ⟨k + 1, by omega, by go_num, fun m hm hmk => ?_, fun i k' hi hk' hik => ?_, hbi⟩
              · rcases Nat.lt_or_ge m k with h' | h'
                · exact HL.out m hm h'
                · obtain rfl : m = k := by omega
                  simpa using HR.out
              · rcases Nat.lt_or_ge i k with h' | h'
                · exact HT.out i k' hi hk' h'
                · obtain rfl : i = k := by omega
                  exact HJ.out k' hk' (by omega)
            case measure => simp [intOf]; omega
    · go_wp2
      go_ret
      exact ⟨ret_bool (ops_yes ⟨by omega, fun i hi => HL.out i hi (by omega), fun i k' hi hk' => HT.out i k' hi hk' (by omega)⟩).symm, hb⟩
end Go.Proofs.Ytlphcbgeagmopaa.OpR
