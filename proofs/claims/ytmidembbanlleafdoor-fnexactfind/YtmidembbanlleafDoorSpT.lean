/- Proves what spec's tests of trees tell. -/
import Derived.Test.YtmidembbanlleafDoorTrS
import Derived.Deep.QuietTactic
import Derived.BigQuiet
namespace Go.Proofs.YtmidembbanlleafDoor.OpR
open Go.ChangeShapes Go.WideShapes Go.ChangeAt Go.RowKit
set_option linter.unusedVariables false

/-- The place of a node, or -1. -/
def atI (l : List NodG) (x : Int) : Int := match l.findIdx? fun n => decide (n.id = x) with
  | some i => (i : Int)
  | none => -1
def NoTo (l : List NodG) (x : Int) (k : Nat) : Prop := ∀ j (h : j < l.length), j < k → l[j].id ≠ x
theorem atI_none {l : List NodG} {x : Int} (h : NoTo l x l.length) : atI l x = -1 := by
  unfold atI
  rw [List.findIdx?_eq_none_iff.2 (fun n hn => by
    obtain ⟨j, hj, rfl⟩ := List.getElem_of_mem hn
    simpa using h j hj hj)]
theorem atI_some {l : List NodG} {x : Int} {k : Nat} (hk : k < l.length) (h : NoTo l x k) (he : l[k].id = x) : atI l x = k := by
  unfold atI
  rw [show l.findIdx? (fun n => decide (n.id = x)) = some k from List.findIdx?_eq_some_iff_getElem.2 ⟨hk, by simpa using he, fun j hj => by simpa using h j (by omega) hj⟩]
set_option maxRecDepth 100000 in
set_option maxHeartbeats 400000 in
theorem sAt_any (l : List NodG) (ao : Option Addr) (cap : Nat) (x : Int) (w : World) (hl : l.length ≤ maxLen) (hA : NodesAt w ao l) :
    Calls Tryd.prog 26 #[.agg #[.slice ao l.length cap], .int .i64 x] w fun e w' => e = .returned (.int .i64 (atI l x)) ∧ Below w.heap.size w w' := by
  unfold maxLen at hl
  have HA : Hid (NodesAt w ao l) := ⟨hA⟩
  clear hA
  go_enter Tryd.func26, Tryd.ntmps26
  go_wp2
  go_loopw [5] (fun i wr => ∃ k : Nat, k ≤ l.length ∧ i = .int .i64 k ∧ NoTo l x k ∧ wr = w.alloc (.cells #[.slice ao l.length cap] 29)) (fun i _ => l.length - (intOf i).toNat)
  case atStart => exact ⟨0, by omega, rfl, fun j h hj => by omega, rfl⟩
  case round =>
    obtain ⟨k, hk, rfl, hno, rfl⟩ := hrel
    have hB : Below w.heap.size w (w.alloc (.cells #[.slice ao l.length cap] 29)) := (Below.refl _ _).alloc (Nat.le_refl _) _
    have HN := hide hno
    clear hno
    by_cases h : k < l.length
    · obtain ⟨b, off, rfl, hlt, ho, _⟩ := HA.out k h
      obtain ⟨c0, c1, c2, c3⟩ := ho.block (hB.block b hlt)
      have hi0 : (0 : Int) ≤ (k : Int) := by omega
      have hi1 : (k : Int) < (l.length : Int) := by omega
      clear ho
      by_cases he : l[k].id = x
      · have HE := hide he
        go_wp2
        go_ret
        exact ⟨by rw [atI_some h HN.out HE.out]; rfl, hB⟩
      · go_wp2
        go_roundw
        case rel =>
          refine ⟨k + 1, by omega, by go_num, fun j hj hjk => ?_, trivial⟩
          rcases Nat.lt_or_ge j k with h' | h'
          · exact HN.out j hj h'
          · obtain rfl : j = k := by omega
            exact he
        case measure => simp [intOf]; omega
    · obtain rfl : k = l.length := by omega
      go_wp2
      go_ret
      exact ⟨by rw [atI_none HN.out]; rfl, hB⟩

theorem _root_.Go.RowKit.Below.drewN {B : Nat} {a w : World} (h : Below B a w) (n : Nat) : Below B a (w.drewN n) := ⟨h.os, h.tape, h.output, h.size, h.block⟩
theorem drew_more {a w : World} (h : ∃ q, w = a.drewN q) (n : Nat) : ∃ q, w.drewN n = a.drewN q := by
  obtain ⟨q, rfl⟩ := h
  exact ⟨q + n, World.drewN_drewN _ _ _⟩
/-- The first k are right. -/
def PropsTo (l : List PropV) (k : Nat) : Prop := (∀ j (h : j < l.length), j < k → propOk l[j] = true) ∧ ∀ j (h : j + 1 < l.length), j + 1 < k → keyLt l[j].key l[j + 1].key = true
set_option maxRecDepth 100000 in
set_option maxHeartbeats 400000 in
theorem sProps_any (l : List PropV) (ao : Option Addr) (cap : Nat) (w : World) (hl : l.length ≤ maxLen) (hA : PropsAt w ao l) (hS : SizedP maxLen l) :
    Calls Tryd.prog 23 #[.slice ao l.length cap] w fun e w' => e = .returned (.bool (propsOk l)) ∧ ∃ q, w' = w.drewN q := by
  unfold maxLen at hl
  have HA : Hid (PropsAt w ao l) := ⟨hA⟩
  have HS := hide hS
  clear hA hS
  go_enter Tryd.func23, Tryd.ntmps23
  go_wp2
  go_loopw [3] (fun i wr => ∃ k : Nat, k ≤ l.length ∧ i = .int .i64 k ∧ PropsTo l k ∧ ∃ q, wr = w.drewN q) (fun i _ => l.length - (intOf i).toNat)
  case atStart => exact ⟨0, by omega, rfl, ⟨fun j h hj => by omega, fun j h hj => by omega⟩, 0, rfl⟩
  case round =>
    obtain ⟨k, hk, rfl, hto, hq⟩ := hrel
    have HQ := hide hq
    have hb : Below w.heap.size w wr := by obtain ⟨q, rfl⟩ := hq; exact (Below.refl _ _).drewN q
    clear hq
    have HT := hide hto
    clear hto
    by_cases h : k < l.length
    · obtain ⟨b, off, rfl, hlt, ho⟩ := HA.out k h
      obtain ⟨c0, c1⟩ := ho.block (w' := wr) (hb.block b hlt)
      have hi0 : (0 : Int) ≤ (k : Int) := by omega
      have hi1 : (k : Int) < (l.length : Int) := by omega
      have hsz := HS.out _ (List.getElem_mem h)
      have hN := fun W => NameR.spec_any l[k].key W hsz.1
      unfold maxLen at hsz
      obtain ⟨s, hs⟩ : ∃ s, l[k] = s := ⟨_, rfl⟩
      rw [hs] at c0 c1 hN hsz
      have HE := hide hs
      clear hs ho
      cases hnm : NameR.nmB s.key
      · have HF : Hid (propsOk l = false) := ⟨propsOk_no fun hp => by have := hp.2.1 _ (List.getElem_mem h); rw [HE.out] at this; simp [propOk, hnm] at this⟩
        simp only [hnm] at hN
        go_wp2_with fail
        go_quiet (first | (go_at_call 22; refine Calls.quiet_of_same (hN _)))
        go_wp2
        go_ret
        exact ⟨by rw [HF.out]; rfl, drew_more HQ.out _⟩
      · simp only [hnm] at hN
        by_cases hv : (s.value.size : Int) ≤ 40
        · have hv2 : decide ((40 : Int) < (s.value.size : Int)) = false := by simp; omega
          rcases Nat.eq_zero_or_pos k with hk0 | hk0
          · subst hk0
            simp only [Nat.zero_mul, Nat.add_zero] at c0 c1
            go_wp2_with fail
            go_quiet (first | (go_at_call 22; refine Calls.quiet_of_same (hN _)))
            go_wp2
            go_roundw
            case rel =>
              refine ⟨1, by omega, by go_num, ⟨fun j hj hjk => ?_, fun j hj hjk => by omega⟩, drew_more HQ.out _⟩
              obtain rfl : j = 0 := by omega
              rw [HE.out]
              simp [propOk, hnm]; omega
            case measure => simp [intOf]; omega
          · obtain ⟨m, rfl⟩ : ∃ m, k = m + 1 := ⟨k - 1, by omega⟩
            obtain ⟨b', off', hq, hlt', ho'⟩ := HA.out m (by omega)
            cases hq
            obtain ⟨d0, d1⟩ := ho'.block (w' := wr) (hb.block b hlt)
            have hm0 : (0 : Int) ≤ (m : Int) := by omega
            have hm1 : (m : Int) < (l.length : Int) := by omega
            have hm2 : (0 : Int) < (m : Int) + 1 := by omega
            have hW : IntKind.i64.wrap (m : Int) = (m : Int) := by rw [IntKind.wrap_i64]; omega
            have hW2 : wrap64 (m : Int) = (m : Int) := by unfold wrap64; omega
            cases hkl : keyLt l[m].key s.key
            · have HF : Hid (propsOk l = false) := ⟨propsOk_no fun hp => by have := hp.2.2 m h; rw [HE.out, hkl] at this; cases this⟩
              unfold keyLt at hkl
              go_wp2_with fail
              go_quiet (first | (go_at_call 22; refine Calls.quiet_of_same (hN _)))
              go_wp2
              go_ret
              exact ⟨by rw [HF.out]; rfl, drew_more HQ.out _⟩
            · have HK := hide hkl
              unfold keyLt at hkl
              go_wp2_with fail
              go_quiet (first | (go_at_call 22; refine Calls.quiet_of_same (hN _)))
              go_wp2
              go_roundw
              case rel =>
                refine ⟨m + 2, by omega, by go_num, ⟨fun j hj hjk => ?_, fun j hj hjk => ?_⟩, drew_more HQ.out _⟩
                · rcases Nat.lt_or_ge j (m + 1) with h' | h'
                  · exact HT.out.1 j hj h'
                  · obtain rfl : j = m + 1 := by omega
                    rw [HE.out]
                    simp [propOk, hnm]; omega
                · rcases Nat.lt_or_ge j m with h' | h'
                  · exact HT.out.2 j hj (by omega)
                  · obtain rfl : j = m := by omega
                    rw [HE.out]
                    exact HK.out
              case measure => simp [intOf]; omega
        · have HF : Hid (propsOk l = false) := ⟨propsOk_no fun hp => by have := hp.2.1 _ (List.getElem_mem h); rw [HE.out] at this; simp [propOk] at this; omega⟩
          have hv' : (40 : Int) < (s.value.size : Int) := by omega
          go_wp2_with fail
          go_quiet (first | (go_at_call 22; refine Calls.quiet_of_same (hN _)))
          go_wp2
          go_ret
          exact ⟨by rw [HF.out]; rfl, drew_more HQ.out _⟩
    · obtain rfl : k = l.length := by omega
      go_wp2
      go_ret
      refine ⟨ret_bool ?_, HQ.out⟩
      have hT := HT.out
      by_cases h20 : l.length ≤ 20
      · rw [propsOk_yes ⟨h20, fun p hp => by obtain ⟨j, hj, rfl⟩ := List.getElem_of_mem hp; exact hT.1 j hj hj, fun i hi => hT.2 i hi hi⟩]
        simp; omega
      · rw [propsOk_no fun hp => h20 hp.1]
        simp; omega
end Go.Proofs.YtmidembbanlleafDoor.OpR
