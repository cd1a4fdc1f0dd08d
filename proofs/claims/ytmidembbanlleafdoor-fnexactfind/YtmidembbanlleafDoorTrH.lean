/- Proves what the harness does with trees: how much is in them, copies of them, comparisons. -/
import Derived.Test.YtmidembbanlleafDoorTrM
namespace Go.Proofs.YtmidembbanlleafDoor.OpR
open Go.ChangeShapes Go.WideShapes Go.ChangeAt Go.RowKit
set_option linter.unusedVariables false

set_option maxRecDepth 100000 in
set_option maxHeartbeats 400000 in
theorem szProp_any (p : PropV) (left : Int) (w : World) (h0 : 0 ≤ left) (h1 : left ≤ 1048576) (hn : p.key.size ≤ maxLen) (hv : p.value.size ≤ maxLen) :
    Calls Tryd.prog 49 #[p.agg, .int .i64 left] w fun e w' => ∃ m : Int, e = .returned (.int .i64 m) ∧ m ≤ left ∧ -1 ≤ m ∧ (0 ≤ m → p.key.size ≤ 1048576 ∧ p.value.size ≤ 1048576) ∧ Below w.heap.size w w' := by
  unfold maxLen at hn hv
  unfold PropV.agg
  go_enter Tryd.func49, Tryd.ntmps49
  go_wp2
  · go_ret; exact ⟨-1, rfl, by omega, by omega, fun h => by omega, (Below.refl _ _).alloc (Nat.le_refl _) _⟩
  · go_ret; exact ⟨-1, rfl, by omega, by omega, fun h => by omega, (Below.refl _ _).alloc (Nat.le_refl _) _⟩
  · go_ret; exact ⟨_, rfl, by omega, by omega, fun h => by omega, (Below.refl _ _).alloc (Nat.le_refl _) _⟩

def SizedP (m : Nat) (l : List PropV) : Prop := ∀ p ∈ l, p.key.size ≤ m ∧ p.value.size ≤ m
set_option maxRecDepth 100000 in
set_option maxHeartbeats 400000 in
theorem szPropS_any (l : List PropV) (ao : Option Addr) (cap : Nat) (left : Int) (w : World) (h0 : 0 ≤ left) (h1 : left ≤ 1048576) (hl : l.length ≤ maxLen) (hA : PropsAt w ao l) (hS : SizedP maxLen l) :
    Calls Tryd.prog 35 #[.slice ao l.length cap, .int .i64 left] w fun e w' => ∃ m : Int, e = .returned (.int .i64 m) ∧ m ≤ left ∧ -1 ≤ m ∧ (0 ≤ m → l.length ≤ 1048576 ∧ SizedP 1048576 l) ∧ Below w.heap.size w w' := by
  have hl' := hl
  unfold maxLen at hl
  have HA : Hid (PropsAt w ao l) := ⟨hA⟩
  have HS : Hid (SizedP maxLen l) := ⟨hS⟩
  clear hA hS
  go_enter Tryd.func35, Tryd.ntmps35
  go_wp2
  · go_ret; exact ⟨-1, rfl, by omega, by omega, fun h => by omega, Below.refl _ _⟩
  go_loopw [1, 5] (fun m i wr => ∃ (k : Nat) (z : Int), k ≤ l.length ∧ i = .int .i64 k ∧ m = .int .i64 z ∧ 0 ≤ z ∧ z ≤ left ∧ (∀ j (hj : j < l.length), j < k → l[j].key.size ≤ 1048576 ∧ l[j].value.size ≤ 1048576) ∧ Below w.heap.size w wr) (fun _ i _ => l.length - (intOf i).toNat)
  case atStart => exact ⟨0, _, by omega, rfl, rfl, by omega, by omega, fun j hj h => by omega, Below.refl _ _⟩
  case round =>
    obtain ⟨k, z, hk, rfl, rfl, hz0, hz1, hall, hb⟩ := hrel
    have HL : Hid (∀ j (hj : j < l.length), j < k → l[j].key.size ≤ 1048576 ∧ l[j].value.size ≤ 1048576) := ⟨hall⟩
    clear hall
    by_cases h : k < l.length
    · obtain ⟨b, off, rfl, hlt, ho⟩ := HA.out k h
      obtain ⟨c0, c1⟩ := ho.block (w' := wr) (hb.block b hlt)
      have hsz := HS.out _ (List.getElem_mem h)
      have hcall := szProp_any l[k] z wr hz0 (by omega) hsz.1 hsz.2
      unfold PropV.agg at hcall
      have hi0 : (0 : Int) ≤ (k : Int) := by omega
      have hi1 : (k : Int) < (l.length : Int) := by omega
      clear ho hsz
      go_wp2_with (first | (go_at_call 49; refine hcall.mono ?_; rintro e w1 ⟨m, rfl, hm0, hm1, hm2, hb1⟩))
      · go_ret; exact ⟨-1, rfl, by omega, by omega, fun h => by omega, hb.trans (hb1.mono hb.size)⟩
      · go_roundw
        case rel =>
          refine ⟨k + 1, m, by omega, by go_num, rfl, by omega, by omega, fun j hj hjk => ?_, hb.trans (hb1.mono hb.size)⟩
          rcases Nat.lt_or_ge j k with h' | h'
          · exact HL.out j hj h'
          · obtain rfl : j = k := by omega
            exact hm2 (by omega)
        case measure => simp [intOf]; omega
    · go_wp2
      go_ret
      refine ⟨_, rfl, by omega, by omega, fun _ => ⟨by omega, fun o ho => ?_⟩, hb⟩
      obtain ⟨j, hj, rfl⟩ := List.getElem_of_mem ho
      exact HL.out j hj (by omega)

/-- How long the texts of one node are. -/
def Sized1 (m : Nat) (n : NodG) : Prop := n.name.size ≤ m ∧ n.props.length ≤ m ∧ SizedP m n.props
set_option maxRecDepth 100000 in
set_option maxHeartbeats 400000 in
theorem szNode_any (n : NodG) (left : Int) (w : World) (h0 : 0 ≤ left) (h1 : left ≤ 1048576) (hA : PropsAt w n.pao n.props) (hS : Sized1 maxLen n) :
    Calls Tryd.prog 20 #[n.agg, .int .i64 left] w fun e w' => ∃ m : Int, e = .returned (.int .i64 m) ∧ m ≤ left ∧ -1 ≤ m ∧ (0 ≤ m → Sized1 1048576 n) ∧ Below w.heap.size w w' := by
  obtain ⟨hn, hp, hS⟩ := hS
  have hcall := fun z h0 h1 W (hW : Below w.heap.size w W) => szPropS_any n.props n.pao n.pcap z W h0 h1 hp (hA.stays hW) hS
  unfold maxLen at hn
  have HC := hide hcall
  clear hcall hA hS hp
  unfold NodG.agg
  go_enter Tryd.func20, Tryd.ntmps20
  go_wp2_with (first | (go_at_call 35; refine (HC.out _ (by omega) (by omega) _ ((Below.refl _ _).alloc (Nat.le_refl _) _)).mono ?_; rintro e w1 ⟨m, rfl, hm0, hm1, hm2, hb1⟩; have HM := hide hm2; clear hm2))
  · go_ret; exact ⟨-1, rfl, by omega, by omega, fun h => by omega, (Below.refl _ _).alloc (Nat.le_refl _) _⟩
  · go_ret; exact ⟨-1, rfl, by omega, by omega, fun h => by omega, ((Below.refl _ _).alloc (Nat.le_refl _) _).trans (hb1.mono (by simp))⟩
  · go_ret; exact ⟨_, rfl, by omega, by omega, fun h => ⟨by omega, (HM.out h).1, (HM.out h).2⟩, ((Below.refl _ _).alloc (Nat.le_refl _) _).trans (hb1.mono (by simp))⟩

set_option maxRecDepth 100000 in
set_option maxHeartbeats 400000 in
theorem szNodeS_any (l : List NodG) (ao : Option Addr) (cap : Nat) (w : World) (hl : l.length ≤ maxLen) (hA : NodesAt w ao l) (hS : ∀ n ∈ l, Sized1 maxLen n) :
    Calls Tryd.prog 9 #[.slice ao l.length cap, .int .i64 1048576] w fun e w' => ∃ m : Int, e = .returned (.int .i64 m) ∧ m ≤ 1048576 ∧ -1 ≤ m ∧ (0 ≤ m → l.length ≤ 1048576 ∧ ∀ n ∈ l, Sized1 1048576 n) ∧ Below w.heap.size w w' := by
  have hl' := hl
  unfold maxLen at hl
  have HA : Hid (NodesAt w ao l) := ⟨hA⟩
  have HS : Hid (∀ n ∈ l, Sized1 maxLen n) := ⟨hS⟩
  clear hA hS
  go_enter Tryd.func9, Tryd.ntmps9
  go_wp2
  · go_ret; exact ⟨-1, rfl, by omega, by omega, fun h => by omega, Below.refl _ _⟩
  go_loopw [1, 5] (fun m i wr => ∃ (k : Nat) (z : Int), k ≤ l.length ∧ i = .int .i64 k ∧ m = .int .i64 z ∧ 0 ≤ z ∧ z ≤ 1048576 ∧ (∀ j (hj : j < l.length), j < k → Sized1 1048576 l[j]) ∧ Below w.heap.size w wr) (fun _ i _ => l.length - (intOf i).toNat)
  case atStart => exact ⟨0, _, by omega, rfl, rfl, by omega, by omega, fun j hj h => by omega, Below.refl _ _⟩
  case round =>
    obtain ⟨k, z, hk, rfl, rfl, hz0, hz1, hall, hb⟩ := hrel
    have HL : Hid (∀ j (hj : j < l.length), j < k → Sized1 1048576 l[j]) := ⟨hall⟩
    clear hall
    by_cases h : k < l.length
    · obtain ⟨b, off, rfl, hlt, ho, hp⟩ := HA.out k h
      obtain ⟨c0, c1, c2, c3⟩ := ho.block (w' := wr) (hb.block b hlt)
      have hcall := szNode_any l[k] z wr hz0 hz1 (hp.stays hb) (HS.out _ (List.getElem_mem h))
      unfold NodG.agg at hcall
      have hi0 : (0 : Int) ≤ (k : Int) := by omega
      have hi1 : (k : Int) < (l.length : Int) := by omega
      clear ho hp
      go_wp2_with (first | (go_at_call 20; refine hcall.mono ?_; rintro e w1 ⟨m, rfl, hm0, hm1, hm2, hb1⟩; have HM := hide hm2; clear hm2))
      · go_ret; exact ⟨-1, rfl, by omega, by omega, fun h => by omega, hb.trans (hb1.mono hb.size)⟩
      · go_roundw
        case rel =>
          refine ⟨k + 1, m, by omega, by go_num, rfl, by omega, by omega, fun j hj hjk => ?_, hb.trans (hb1.mono hb.size)⟩
          rcases Nat.lt_or_ge j k with h' | h'
          · exact HL.out j hj h'
          · obtain rfl : j = k := by omega
            exact HM.out (by omega)
        case measure => simp [intOf]; omega
    · go_wp2
      go_ret
      refine ⟨_, rfl, by omega, by omega, fun _ => ⟨by omega, fun o ho => ?_⟩, hb⟩
      obtain ⟨j, hj, rfl⟩ := List.getElem_of_mem ho
      exact HL.out j hj (by omega)

set_option maxRecDepth 100000 in
set_option maxHeartbeats 400000 in
theorem szTree_any (l : List NodG) (ao : Option Addr) (cap : Nat) (w : World) (hl : l.length ≤ maxLen) (hA : NodesAt w ao l) (hS : ∀ n ∈ l, Sized1 maxLen n) :
    Calls Tryd.prog 4 #[.agg #[.slice ao l.length cap], .int .i64 1048576] w fun e w' => ∃ m : Int, e = .returned (.int .i64 m) ∧ m ≤ 1048576 ∧ -1 ≤ m ∧ (0 ≤ m → l.length ≤ 1048576 ∧ ∀ n ∈ l, Sized1 1048576 n) ∧ Below w.heap.size w w' := by
  have hcall := szNodeS_any l ao cap _ hl (hA.stays ((Below.refl _ _).alloc (Nat.le_refl _) (.cells #[.slice ao l.length cap] 24))) hS
  have HC := hide hcall
  clear hcall hA hS hl
  go_enter Tryd.func4, Tryd.ntmps4
  go_wp2_with (first | (go_at_call 9; refine HC.out.mono ?_; rintro e w1 ⟨m, rfl, hm0, hm1, hm2, hb1⟩; have HM := hide hm2; clear hm2))
  · go_ret; exact ⟨-1, rfl, by omega, by omega, fun h => by omega, ((Below.refl _ _).alloc (Nat.le_refl _) _).trans (hb1.mono (by simp))⟩
  · go_ret; exact ⟨_, rfl, by omega, by omega, HM.out, ((Below.refl _ _).alloc (Nat.le_refl _) _).trans (hb1.mono (by simp))⟩
end Go.Proofs.YtmidembbanlleafDoor.OpR
