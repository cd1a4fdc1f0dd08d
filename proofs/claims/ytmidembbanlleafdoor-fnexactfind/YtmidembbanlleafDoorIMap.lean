/- Proves what impl makes of a map of nodes: the map itself, what is above, what holds. -/
import Derived.Test.YtmidembbanlleafDoorITr
import Derived.Test.YtmidembbanlleafDoorMapT
namespace Go.Proofs.YtmidembbanlleafDoor.OpR
open Go.ChangeShapes Go.WideShapes Go.ChangeAt Go.RowKit
set_option linter.unusedVariables false

def In64 (x : Int) : Prop := -9223372036854775808 ≤ x ∧ x ≤ 9223372036854775807
def Rng (l : List NodG) : Prop := ∀ n ∈ l, In64 n.id ∧ In64 n.parent
def kvOf (l : List NodG) : List (Int × NodG) := l.map fun n => (n.id, n)
/-- The parent of what stands at a number. -/
def kvPar (m : List (Int × NodG)) (x : Int) : Option Int := (kvAt m x).map NodG.parent
theorem kvIns_end (x : Int) (n : NodG) : ∀ (m : List (Int × NodG)), (∀ p ∈ m, p.1 < x) → kvIns x n m = m ++ [(x, n)]
  | [], _ => rfl
  | q :: r, h => by
    have := h q (by simp)
    rw [kvIns, if_neg (by omega), kvIns_end x n r (fun p hp => h p (by simp [hp]))]
    rfl
theorem kvPut_end {x : Int} {n : NodG} {m : List (Int × NodG)} (h : ∀ p ∈ m, p.1 < x) : kvPut m x n = m ++ [(x, n)] := by
  have e : kvDel m x = m := List.filter_eq_self.2 fun p hp => by have := h p hp; simp; omega
  unfold kvPut
  rw [e, kvIns_end x n m h]
theorem kvOf_take {l : List NodG} (hr : RisesN l) {k : Nat} (hk : k < l.length) : kvPut (kvOf (l.take k)) l[k].id l[k] = kvOf (l.take (k + 1)) := by
  rw [kvPut_end]
  · unfold kvOf
    rw [List.take_add_one, List.getElem?_eq_getElem hk, Option.toList_some, List.map_append, List.map_cons, List.map_nil]
  · intro p hp
    obtain ⟨n, hn, rfl⟩ := List.mem_map.1 hp
    obtain ⟨j, hj, rfl⟩ := List.getElem_of_mem hn
    rw [List.getElem_take]
    have : j < k := by rw [List.length_take] at hj; omega
    exact rises_lt hr j k this hk
theorem kvAt_of (l : List NodG) (x : Int) : kvAt (kvOf l) x = nodOf l x := by
  unfold kvAt kvOf nodOf
  rw [List.find?_map, Option.map_map]
  show Option.map (fun n => n) (l.find? fun n => decide (n.id = x)) = _
  simp
theorem kvPar_of (l : List NodG) : kvPar (kvOf l) = par l := by
  funext x
  unfold kvPar par
  rw [kvAt_of]
theorem kvOf_len (l : List NodG) : (kvOf l).length = l.length := by simp [kvOf]

theorem turned_below {w w' : World} {a : World} {B C : Nat} (h : Below C a w) (ht : w.mapTurned w' B) (hB : C ≤ B) : Below C a w' := by
  obtain ⟨es, clock, es', clock', hb, rfl⟩ := ht
  exact h.grown (World.mapTurned.grown ⟨es, clock, es', clock', hb, rfl⟩) (Nat.le_of_lt (Nat.lt_of_le_of_lt hB (Array.getElem?_eq_some_iff.1 hb).1)) (fun k hk => by cases hk; exact hB)

/-- A variable that holds the map, and the map. -/
structure MapV (w c : World) (bx B : Nat) (m : List (Int × NodG)) : Prop where
  below : Below w.heap.size w c
  var : c.heap[bx]? = some (.cells #[.map (some B)] 42 (0, 0))
  map : MapAt c B m
theorem MapV.step {w c c' : World} {bx B : Nat} {m : List (Int × NodG)} (h : MapV w c bx B m) (hb : Below c.heap.size c c') : MapV w c' bx B m :=
  ⟨h.below.trans (hb.mono h.below.size), (hb.block _ (Array.getElem?_eq_some_iff.1 h.var).1).trans h.var, h.map.stays hb⟩
theorem MapV.cell {w c : World} {bx B : Nat} {m : List (Int × NodG)} (h : MapV w c bx B m) : c.cell? ⟨bx, 0, none⟩ = some (.map (some B)) := (cells1 h.var).1

set_option maxRecDepth 100000 in
set_option maxHeartbeats 400000 in
theorem nodesOf_any (l : List NodG) (ao : Option Addr) (cap : Nat) (w : World) (hl : l.length ≤ 1048576) (hr : RisesN l) (hg : Rng l) (hA : NodesAt w ao l) :
    Calls Tryd.prog 16 #[.agg #[.slice ao l.length cap]] w fun e w' => ∃ B, e = .returned (.map (some B)) ∧ w.heap.size ≤ B ∧ MapAt w' B (kvOf l) ∧ Below w.heap.size w w' := by
  have HA : Hid (NodesAt w ao l) := ⟨hA⟩
  have HR := hide hr
  have HG := hide hg
  have hmm := @run_makeMap Tryd.prog
  clear hA hr hg
  go_enter Tryd.func16, Tryd.ntmps16
  go_wp2
  clear hmm
  go_loopw [10] (fun i wr => ∃ k : Nat, k ≤ l.length ∧ i = .int .i64 k ∧ MapAt wr (w.heap.size + 1) (kvOf (l.take k)) ∧ Below w.heap.size w wr) (fun i _ => l.length - (intOf i).toNat)
  case atStart =>
    refine ⟨0, by omega, rfl, ?_, ((Below.refl _ _).alloc (Nat.le_refl _) _).alloc (by simp) _⟩
    have := MapAt.made (w.alloc (.cells #[.slice ao l.length cap] 29))
    simpa [kvOf] using this
  case round =>
    obtain ⟨k, hk, rfl, hM, hb⟩ := hrel
    by_cases h : k < l.length
    · obtain ⟨b, off, rfl, hlt, ho, _⟩ := HA.out k h
      obtain ⟨c0, c1, c2, c3⟩ := ho.block (w' := wr) (hb.block b hlt)
      have hi0 : (0 : Int) ≤ (k : Int) := by omega
      have hi1 : (k : Int) < (l.length : Int) := by omega
      have HM := hide hM
      have hlen : (kvOf (l.take k)).length < maxLen := by rw [kvOf_len, List.length_take]; unfold maxLen; omega
      have HL := hide hlen
      clear ho hM hlen
      go_wp2_with (first | (at_mapUpdate; refine wpList_put_node _ rfl _ _ _ rfl (w.heap.size + 1) (kvOf (l.take k)) rfl (HM.out.stays ((Below.refl _ _).alloc (Nat.le_refl _) _)) HL.out l[k].id (HG.out _ (List.getElem_mem h)).1 rfl l[k] rfl ?_; intro w1 hM1 ht1; have HM1 := hide hM1; have hb1 := turned_below (hb.alloc hb.size _) ht1 (by omega); clear hM1 ht1) | go_in)
      go_roundw
      case rel => exact ⟨k + 1, by omega, by go_num, by rw [← kvOf_take HR.out h]; exact HM1.out, hb1⟩
      case measure => simp [intOf]; omega
    · obtain rfl : k = l.length := by omega
      have HM : Hid (MapAt wr (w.heap.size + 1) (kvOf l)) := ⟨by rw [List.take_length] at hM; exact hM⟩
      clear hM
      go_wp2
      go_ret
      exact ⟨_, rfl, by omega, HM.out, hb⟩

set_option maxRecDepth 100000 in
set_option maxHeartbeats 400000 in
theorem above_any (B : Nat) (w : World) :
    Calls Tryd.prog 41 #[.map (some B)] w fun e w' => e = .returned (.func (.func 55) #[] #[.pointer (some ⟨w.heap.size, 0, none⟩)]) ∧ w'.heap[w.heap.size]? = some (.cells #[.map (some B)] 42 (0, 0)) ∧ Below w.heap.size w w' := by
  go_enter Tryd.func41, Tryd.ntmps41
  go_wp2
  go_ret
  exact ⟨rfl, heap_alloc_new w _, (Below.refl _ _).alloc (Nat.le_refl _) _⟩

def RngM (m : List (Int × NodG)) : Prop := ∀ p ∈ m, In64 p.2.parent
theorem RngM.at {m : List (Int × NodG)} (h : RngM m) {x : Int} {n : NodG} (hn : kvAt m x = some n) : In64 n.parent := by
  unfold kvAt at hn
  obtain ⟨p, hp, rfl⟩ := Option.map_eq_some_iff.1 hn
  exact h p (List.mem_of_find?_eq_some hp)
set_option maxRecDepth 100000 in
set_option maxHeartbeats 400000 in
theorem aboveIn_any (m : List (Int × NodG)) (bx B : Nat) (x y : Int) (w : World) (hl : m.length ≤ 1048576) (hg : RngM m) (hx : In64 x) (hv : w.heap[bx]? = some (.cells #[.map (some B)] 42 (0, 0))) (hM : MapAt w B m) :
    Calls Tryd.prog 55 #[.int .i64 x, .int .i64 y, .pointer (some ⟨bx, 0, none⟩)] w fun e w' => e = .returned (.bool (abF (kvPar m) y (m.length + 1) x)) ∧ Below w.heap.size w w' := by
  have HV := hide (MapV.mk (Below.refl w.heap.size w) hv hM)
  have HM := hide hM
  have HG := hide hg
  have hc := (cells1 hv).1
  clear hM hg hv
  go_enter Tryd.func55, Tryd.ntmps55
  go_wp2_with (first | (at_len; refine wpList_len_nodes _ rfl _ rfl B m rfl HM.out ?_) | go_in)
  clear hc
  go_loopw [0, 11] (fun z i wr => ∃ (k : Nat) (v : Int), k ≤ m.length + 1 ∧ z = .int .i64 v ∧ i = .int .i64 k ∧ In64 v ∧ abF (kvPar m) y (m.length + 1) x = abF (kvPar m) y (m.length + 1 - k) v ∧ MapV w wr bx B m) (fun _ i _ => m.length + 1 - (intOf i).toNat)
  case atStart => exact ⟨0, x, by omega, rfl, rfl, hx, rfl, HV.out⟩
  case round =>
    obtain ⟨k, v, hk, rfl, rfl, hv64, he, hmv⟩ := hrel
    have HE := hide he
    have HW := hide hmv
    have H64 := hide hv64
    have hc := hmv.cell
    clear he hmv hv64
    by_cases h : k ≤ m.length
    · have hi1 : (k : Int) < (m.length : Int) + 1 := by omega
      have ek : m.length + 1 - k = (m.length - k) + 1 := by omega
      by_cases hvy : v = y
      · have HF : Hid (abF (kvPar m) y (m.length + 1) x = true) := ⟨by rw [HE.out, ek]; simp [abF, hvy]⟩
        have hvy' : (v == y) = true := beq_iff_eq.2 hvy
        clear ek hvy
        go_wp2
        go_ret
        exact ⟨ret_bool (by rw [HF.out]), HW.out.below⟩
      · have hvy' : (v == y) = false := beq_eq_false_iff_ne.2 hvy
        cases ha : kvAt m v with
        | none =>
          have HF : Hid (abF (kvPar m) y (m.length + 1) x = false) := ⟨by rw [HE.out, ek]; simp [abF, hvy, kvPar, ha]⟩
          have HAt := hide ha
          clear ek hvy ha
          go_wp2_with (first | (at_lookup; refine wpList_look_none _ rfl _ _ rfl B m rfl HW.out.map v H64.out rfl HAt.out ?_) | go_in)
          go_ret
          exact ⟨ret_bool (by rw [HF.out]), HW.out.below.alloc HW.out.below.size _⟩
        | some n =>
          have HF : Hid (abF (kvPar m) y (m.length + 1) x = abF (kvPar m) y (m.length + 1 - (k + 1)) n.parent) := ⟨by
            rw [HE.out, ek]
            simp only [abF, hvy, if_false, kvPar, ha, Option.map_some]
            congr 1; omega⟩
          have HAt := hide ha
          clear ek hvy ha
          go_wp2_with (first | (at_lookup; refine wpList_look_some _ rfl _ _ rfl B m rfl HW.out.map v H64.out rfl n HAt.out ?_) | go_in)
          go_roundw
          case rel => exact ⟨k + 1, n.parent, by omega, rfl, by go_num, HG.out.at HAt.out, HF.out, HW.out.step ((Below.refl _ _).alloc (Nat.le_refl _) _)⟩
          case measure => simp [intOf]; omega
    · obtain rfl : k = m.length + 1 := by omega
      have HF : Hid (abF (kvPar m) y (m.length + 1) x = false) := ⟨by rw [HE.out, Nat.sub_self]; rfl⟩
      go_wp2
      go_ret
      exact ⟨ret_bool (by rw [HF.out]), HW.out.below⟩
end Go.Proofs.YtmidembbanlleafDoor.OpR
