/- Proves what impl's tests of rows of nodes and props tell. -/
import Derived.Test.YtmidembbanlleafDoorCls
import Derived.Test.YtmidembbanlleafDoorIOp
namespace Go.Proofs.YtmidembbanlleafDoor.OpR
open Go.ChangeShapes Go.WideShapes Go.ChangeAt Go.RowKit
set_option linter.unusedVariables false

set_option maxRecDepth 100000 in
set_option maxHeartbeats 400000 in
theorem nodAhead_any (a b : NodG) (w : World) :
    Calls Tryd.prog 29 #[a.agg, b.agg] w fun e w' => e = .returned (.bool (decide (a.id < b.id))) ∧ Below w.heap.size w w' := by
  unfold NodG.agg
  go_enter Tryd.func29, Tryd.ntmps29
  go_wp2
  go_ret
  exact ⟨rfl, ((Below.refl _ _).alloc (Nat.le_refl _) _).alloc (by simp) _⟩
set_option maxRecDepth 100000 in
set_option maxHeartbeats 400000 in
theorem propAhead_any (a b : PropV) (w : World) :
    Calls Tryd.prog 54 #[a.agg, b.agg] w fun e w' => e = .returned (.bool (keyLt a.key b.key)) ∧ Below w.heap.size w w' := by
  unfold PropV.agg
  go_enter Tryd.func54, Tryd.ntmps54
  go_wp2
  go_ret
  exact ⟨rfl, ((Below.refl _ _).alloc (Nat.le_refl _) _).alloc (by simp) _⟩

set_option maxRecDepth 100000 in
set_option maxHeartbeats 400000 in
theorem iRisesN_any (l : List NodG) (ao : Option Addr) (cap : Nat) (w : World) (hl : l.length ≤ maxLen) (hA : NodesAt w ao l) :
    Calls Tryd.prog 28 #[.slice ao l.length cap, .func (.func 29) #[] #[]] w fun e w' => e = .returned (.bool (risesN l)) ∧ Below w.heap.size w w' := by
  unfold maxLen at hl
  have HA : Hid (NodesAt w ao l) := ⟨hA⟩
  clear hA
  go_enter Tryd.func28, Tryd.ntmps28
  go_wp2
  go_loopw [5] (fun i wr => ∃ k : Nat, (k ≤ l.length ∨ k = 0) ∧ i = .int .i64 ((k : Int) + 1) ∧ (∀ j (h : j + 1 < l.length), j < k → l[j].id < l[j + 1].id) ∧ Below w.heap.size w wr) (fun i _ => l.length - (intOf i).toNat)
  case atStart => exact ⟨0, .inr rfl, by go_num, fun j h hj => by omega, Below.refl _ _⟩
  case round =>
    obtain ⟨k, hk, rfl, hal, hb⟩ := hrel
    have HL : Hid (∀ j (h : j + 1 < l.length), j < k → l[j].id < l[j + 1].id) := ⟨hal⟩
    clear hal hk
    by_cases h : k + 1 < l.length
    · obtain ⟨b, off, rfl, hlt, ho, _⟩ := HA.out (k + 1) h
      have hT : (((k : Int) + 1).toNat) = k + 1 := by omega
      have hi3 : (0 : Int) ≤ (k : Int) + 1 := by omega
      have hW : IntKind.i64.wrap (k : Int) = (k : Int) := by rw [IntKind.wrap_i64]; omega
      have hW2 : wrap64 (k : Int) = (k : Int) := by unfold wrap64; omega
      obtain ⟨c0, c1, c2, c3⟩ := ho.block (w' := wr) (hb.block b hlt)
      obtain ⟨b2, off2, hq, hlt2, ho2, _⟩ := HA.out k (by omega)
      cases hq
      obtain ⟨d0, d1, d2, d3⟩ := ho2.block (w' := wr) (hb.block b hlt)
      have hcall := nodAhead_any l[k] l[k + 1] wr.drew
      unfold NodG.agg at hcall
      have hi0 : (0 : Int) ≤ (k : Int) := by omega
      have hi1 : (k : Int) + 1 < (l.length : Int) := by omega
      have hi2 : (k : Int) < (l.length : Int) := by omega
      clear ho ho2
      by_cases ha : l[k].id < l[k + 1].id
      · have HA2 := hide ha
        rw [decide_eq_true ha] at hcall
        clear ha
        go_wp2
        go_region_with (go_at_call 29; refine hcall.mono ?_; rintro e w1 ⟨rfl, hb1⟩)
        all_goals (
          clear hcall c0 c1 c2 c3 d0 d1 d2 d3
          go_wp2
          go_roundw
          case rel =>
            refine ⟨k + 1, .inl (by omega), by go_num, fun j hj hjk => ?_, hb.drew.trans (hb1.mono hb.size)⟩
            rcases Nat.lt_or_ge j k with h' | h'
            · exact HL.out j hj h'
            · obtain rfl : j = k := by omega
              exact HA2.out
          case measure => simp [intOf]; omega)
      · have HF : Hid (risesN l = false) := ⟨risesN_no fun hr => ha (hr k h)⟩
        rw [decide_eq_false ha] at hcall
        clear ha
        go_wp2
        go_region_with (go_at_call 29; refine hcall.mono ?_; rintro e w1 ⟨rfl, hb1⟩)
        all_goals (
          clear hcall c0 c1 c2 c3 d0 d1 d2 d3
          go_wp2
          go_ret
          exact ⟨ret_bool (by rw [HF.out]), hb.drew.trans (hb1.mono hb.size)⟩)
    · have HF : Hid (risesN l = true) := ⟨risesN_yes fun j hj => HL.out j hj (by omega)⟩
      go_wp2
      go_ret
      exact ⟨ret_bool (by rw [HF.out]), hb⟩

set_option maxRecDepth 100000 in
set_option maxHeartbeats 400000 in
theorem iRisesP_any (l : List PropV) (ao : Option Addr) (cap : Nat) (w : World) (hl : l.length ≤ maxLen) (hA : PropsAt w ao l) :
    Calls Tryd.prog 53 #[.slice ao l.length cap, .func (.func 54) #[] #[]] w fun e w' => e = .returned (.bool (allTo l.length (propRise l))) ∧ Below w.heap.size w w' := by
  unfold maxLen at hl
  have HA : Hid (PropsAt w ao l) := ⟨hA⟩
  clear hA
  go_enter Tryd.func53, Tryd.ntmps53
  go_wp2
  go_loopw [5] (fun i wr => ∃ k : Nat, (k ≤ l.length ∨ k = 0) ∧ i = .int .i64 ((k : Int) + 1) ∧ (∀ j (h : j + 1 < l.length), j < k → keyLt l[j].key l[j + 1].key = true) ∧ Below w.heap.size w wr) (fun i _ => l.length - (intOf i).toNat)
  case atStart => exact ⟨0, .inr rfl, by go_num, fun j h hj => by omega, Below.refl _ _⟩
  case round =>
    obtain ⟨k, hk, rfl, hal, hb⟩ := hrel
    have HL : Hid (∀ j (h : j + 1 < l.length), j < k → keyLt l[j].key l[j + 1].key = true) := ⟨hal⟩
    clear hal hk
    by_cases h : k + 1 < l.length
    · obtain ⟨b, off, rfl, hlt, ho⟩ := HA.out (k + 1) h
      have hT : (((k : Int) + 1).toNat) = k + 1 := by omega
      have hi3 : (0 : Int) ≤ (k : Int) + 1 := by omega
      have hW : IntKind.i64.wrap (k : Int) = (k : Int) := by rw [IntKind.wrap_i64]; omega
      have hW2 : wrap64 (k : Int) = (k : Int) := by unfold wrap64; omega
      obtain ⟨c0, c1⟩ := ho.block (w' := wr) (hb.block b hlt)
      obtain ⟨b2, off2, hq, hlt2, ho2⟩ := HA.out k (by omega)
      cases hq
      obtain ⟨d0, d1⟩ := ho2.block (w' := wr) (hb.block b hlt)
      have hcall := propAhead_any l[k] l[k + 1] wr.drew
      unfold PropV.agg at hcall
      have hi0 : (0 : Int) ≤ (k : Int) := by omega
      have hi1 : (k : Int) + 1 < (l.length : Int) := by omega
      have hi2 : (k : Int) < (l.length : Int) := by omega
      clear ho ho2
      go_wp2
      go_region_with (go_at_call 54; refine hcall.mono ?_; rintro e w1 ⟨rfl, hb1⟩)
      all_goals (
        clear hcall c0 c1 d0 d1
        cases ha : keyLt l[k].key l[k + 1].key
        · have HF : Hid (allTo l.length (propRise l) = false) := ⟨bool_no (propRise_iff l) fun hr => by rw [hr k h] at ha; cases ha⟩
          go_wp2
          go_ret
          exact ⟨ret_bool (by rw [HF.out]), hb.drew.trans (hb1.mono hb.size)⟩
        · have HA2 := hide ha
          go_wp2
          go_roundw
          case rel =>
            refine ⟨k + 1, .inl (by omega), by go_num, fun j hj hjk => ?_, hb.drew.trans (hb1.mono hb.size)⟩
            rcases Nat.lt_or_ge j k with h' | h'
            · exact HL.out j hj h'
            · obtain rfl : j = k := by omega
              exact HA2.out
          case measure => simp [intOf]; omega)
    · have HF : Hid (allTo l.length (propRise l) = true) := ⟨(propRise_iff l).2 fun j hj => HL.out j hj (by omega)⟩
      go_wp2
      go_ret
      exact ⟨ret_bool (by rw [HF.out]), hb⟩

set_option maxRecDepth 100000 in
set_option maxHeartbeats 400000 in
theorem iProps_any (l : List PropV) (ao : Option Addr) (cap : Nat) (w : World) (hl : l.length ≤ maxLen) (hA : PropsAt w ao l) (hS : SizedP 1048576 l) :
    Calls Tryd.prog 40 #[.slice ao l.length cap] w fun e w' => e = .returned (.bool (propsOk l)) ∧ Below w.heap.size w w' := by
  have hri := iRisesP_any l ao cap w hl hA
  unfold maxLen at hl
  have HA : Hid (PropsAt w ao l) := ⟨hA⟩
  have HS := hide hS
  clear hA hS
  by_cases h20 : l.length ≤ 20
  · have h20' : decide ((20 : Int) < (l.length : Int)) = false := by simp; omega
    cases hr : allTo l.length (propRise l)
    · have HF : Hid (propsOk l = false) := ⟨propsOk_no fun hp => by rw [(propRise_iff l).2 hp.2.2] at hr; cases hr⟩
      rw [hr] at hri
      go_enter Tryd.func40, Tryd.ntmps40
      go_wp2_with (first | (go_at_call 53; refine hri.mono ?_; rintro e w1 ⟨rfl, hb1⟩))
      go_ret
      exact ⟨ret_bool (by rw [HF.out]), hb1⟩
    · have HR := hide ((propRise_iff l).1 hr)
      rw [hr] at hri
      go_enter Tryd.func40, Tryd.ntmps40
      go_wp2_with (first | (go_at_call 53; refine hri.mono ?_; rintro e w1 ⟨rfl, hb1⟩))
      clear hri
      go_loopw [15] (fun i wr => ∃ k : Nat, k ≤ l.length ∧ i = .int .i64 k ∧ (∀ j (h : j < l.length), j < k → propOk l[j] = true) ∧ Below w.heap.size w wr) (fun i _ => l.length - (intOf i).toNat)
      case atStart => exact ⟨0, by omega, rfl, fun j h hj => by omega, hb1⟩
      case round =>
        obtain ⟨k, hk, rfl, hal, hb⟩ := hrel
        have HL := hide hal
        clear hal
        by_cases h : k < l.length
        · obtain ⟨b, off, rfl, hlt, ho⟩ := HA.out k h
          obtain ⟨c0, c1⟩ := ho.block (w' := wr) (hb.block b hlt)
          have hi0 : (0 : Int) ≤ (k : Int) := by omega
          have hi1 : (k : Int) < (l.length : Int) := by omega
          have hsz := HS.out _ (List.getElem_mem h)
          have hN := fun W => NameR.impl_any l[k].key W (by unfold maxLen; omega)
          obtain ⟨s, hs⟩ : ∃ s, l[k] = s := ⟨_, rfl⟩
          rw [hs] at c0 c1 hN hsz
          have HE := hide hs
          clear hs ho
          cases hnm : NameR.nmB s.key
          · have HF : Hid (propsOk l = false) := ⟨propsOk_no fun hp => by have := hp.2.1 _ (List.getElem_mem h); rw [HE.out] at this; simp [propOk, hnm] at this⟩
            simp only [hnm] at hN
            go_wp2_with (first | (go_at_call 39; refine (hN _).mono ?_; rintro e w2 ⟨rfl, rfl⟩))
            go_ret
            exact ⟨ret_bool (by rw [HF.out]), hb.alloc hb.size _⟩
          · simp only [hnm] at hN
            by_cases hv : (s.value.size : Int) ≤ 40
            · have HP : Hid (propOk l[k] = true) := ⟨by rw [HE.out]; simp [propOk, hnm]; omega⟩
              have hv2 : decide ((40 : Int) < (s.value.size : Int)) = false := by simp; omega
              go_wp2_with (first | (go_at_call 39; refine (hN _).mono ?_; rintro e w2 ⟨rfl, rfl⟩))
              go_roundw
              case rel =>
                refine ⟨k + 1, by omega, by go_num, fun j hj hjk => ?_, hb.alloc hb.size _⟩
                rcases Nat.lt_or_ge j k with h' | h'
                · exact HL.out j hj h'
                · obtain rfl : j = k := by omega
                  exact HP.out
              case measure => simp [intOf]; omega
            · have HF : Hid (propsOk l = false) := ⟨propsOk_no fun hp => by have := hp.2.1 _ (List.getElem_mem h); rw [HE.out] at this; simp [propOk] at this; omega⟩
              have hv2 : (40 : Int) < (s.value.size : Int) := by omega
              go_wp2_with (first | (go_at_call 39; refine (hN _).mono ?_; rintro e w2 ⟨rfl, rfl⟩))
              go_ret
              exact ⟨ret_bool (by rw [HF.out]), hb.alloc hb.size _⟩
        · have HF : Hid (propsOk l = true) := ⟨propsOk_yes ⟨h20, fun p hp => by obtain ⟨j, hj, rfl⟩ := List.getElem_of_mem hp; exact HL.out j hj (by omega), HR.out⟩⟩
          go_wp2
          go_ret
          exact ⟨ret_bool (by rw [HF.out]), hb⟩
  · have HF : Hid (propsOk l = false) := ⟨propsOk_no fun hp => h20 hp.1⟩
    have h20' : (20 : Int) < (l.length : Int) := by omega
    clear hri
    go_enter Tryd.func40, Tryd.ntmps40
    go_wp2
    go_ret
    exact ⟨ret_bool (by rw [HF.out]), Below.refl _ _⟩
end Go.Proofs.YtmidembbanlleafDoor.OpR
