/- Proves what spec's tests of trees tell. A region that draws its order and whose operations leave the world in a class of worlds: one walk in the order of the text serves every order. Proves what spec tells of trees: ways up, TreeRight, Above. Proves what impl's tests of rows of nodes and props tell. Proves what impl makes of a map of nodes: the map itself, what is above, what holds. Proves what impl's holds, TreeRight and Above tell. Proves what impl.TreeRight tells. -/
import Derived.Test.YtcpgkalafkhlgaeDob
import Derived.Deep.QuietTactic
import Derived.BigQuiet
namespace Go.Proofs.Ytcpgkalafkhlgae.OpR
open Go.ChangeShapes Go.WideShapes Go.ChangeAt Go.RowKit
set_option linter.unusedVariables false

/-- The place of a node, or -1. -/
def atI (l : List NodG) (x : Int) : Int := match l.findIdx? fun n => decide (n.id = x) with
  | some i => (i : Int)
  | none => -1
def NoTo (l : List NodG) (x : Int) (k : Nat) : Prop := ∀ j (h : j < l.length), j < k → l[j].id ≠ x
theorem atI_none {l : List NodG} {x : Int} (h : NoTo l x l.length) : atI l x = -1 := by
  unfold atI
  rw [List.findIdx?_eq_none_iff.2 (fun n hn => by
    obtain ⟨j, hj, rfl⟩ := List.getElem_of_mem hn
    simpa using h j hj hj)]
theorem atI_some {l : List NodG} {x : Int} {k : Nat} (hk : k < l.length) (h : NoTo l x k) (he : l[k].id = x) : atI l x = k := by
  unfold atI
  rw [show l.findIdx? (fun n => decide (n.id = x)) = some k from List.findIdx?_eq_some_iff_getElem.2 ⟨hk, by simpa using he, fun j hj => by simpa using h j (by omega) hj⟩]
set_option maxRecDepth 100000 in
set_option maxHeartbeats 400000 in
theorem sAt_any (l : List NodG) (ao : Option Addr) (cap : Nat) (x : Int) (w : World) (hl : l.length ≤ maxLen) (hA : NodesAt w ao l) :
    Calls Try.prog 72 #[.agg #[.slice ao l.length cap], .int .i64 x] w fun e w' => e = .returned (.int .i64 (atI l x)) ∧ Below w.heap.size w w' := by
  unfold maxLen at hl
  have HA : Hid (NodesAt w ao l) := ⟨hA⟩
  clear hA
  go_enter Try.func72, Try.ntmps72
  go_wp2
  go_loopw [5] (fun i wr => ∃ k : Nat, k ≤ l.length ∧ i = .int .i64 k ∧ NoTo l x k ∧ wr = w.alloc (.cells #[.slice ao l.length cap] 43)) (fun i _ => l.length - (intOf i).toNat)
  case atStart => exact ⟨0, by omega, rfl, fun j h hj => by omega, rfl⟩
  case round =>
    obtain ⟨k, hk, rfl, hno, rfl⟩ := hrel
    have hB : Below w.heap.size w (w.alloc (.cells #[.slice ao l.length cap] 43)) := (Below.refl _ _).alloc (Nat.le_refl _) _
    have HN := hide hno
    clear hno
    by_cases h : k < l.length
    · obtain ⟨b, off, rfl, hlt, ho, _⟩ := HA.out k h
      obtain ⟨c0, c1, c2, c3⟩ := ho.block (hB.block b hlt)
      have hi0 : (0 : Int) ≤ (k : Int) := by omega
      have hi1 : (k : Int) < (l.length : Int) := by omega
      clear ho
      by_cases he : l[k].id = x
      · have HE := hide he
        go_wp2
        go_ret
        exact ⟨by rw [atI_some h HN.out HE.out]; rfl, hB⟩
      · go_wp2
        go_roundw
        case rel =>
          refine ⟨k + 1, by omega, by go_num, fun j hj hjk => ?_, trivial⟩
          rcases Nat.lt_or_ge j k with h' | h'
          · exact HN.out j hj h'
          · obtain rfl : j = k := by omega
            exact he
        case measure => simp [intOf]; omega
    · obtain rfl : k = l.length := by omega
      go_wp2
      go_ret
      exact ⟨by rw [atI_none HN.out]; rfl, hB⟩

theorem _root_.Go.RowKit.Below.drewN {B : Nat} {a w : World} (h : Below B a w) (n : Nat) : Below B a (w.drewN n) := ⟨h.os, h.tape, h.output, h.size, h.block⟩
theorem drew_more {a w : World} (h : ∃ q, w = a.drewN q) (n : Nat) : ∃ q, w.drewN n = a.drewN q := by
  obtain ⟨q, rfl⟩ := h
  exact ⟨q + n, World.drewN_drewN _ _ _⟩
/-- The first k are right. -/
def PropsTo (l : List PropV) (k : Nat) : Prop := (∀ j (h : j < l.length), j < k → propOk l[j] = true) ∧ ∀ j (h : j + 1 < l.length), j + 1 < k → keyLt l[j].key l[j + 1].key = true
set_option maxRecDepth 100000 in
set_option maxHeartbeats 400000 in
theorem sProps_any (l : List PropV) (ao : Option Addr) (cap : Nat) (w : World) (hl : l.length ≤ maxLen) (hA : PropsAt w ao l) (hS : SizedP maxLen l) :
    Calls Try.prog 54 #[.slice ao l.length cap] w fun e w' => e = .returned (.bool (propsOk l)) ∧ ∃ q, w' = w.drewN q := by
  unfold maxLen at hl
  have HA : Hid (PropsAt w ao l) := ⟨hA⟩
  have HS := hide hS
  clear hA hS
  go_enter Try.func54, Try.ntmps54
  go_wp2
  go_loopw [3] (fun i wr => ∃ k : Nat, k ≤ l.length ∧ i = .int .i64 k ∧ PropsTo l k ∧ ∃ q, wr = w.drewN q) (fun i _ => l.length - (intOf i).toNat)
  case atStart => exact ⟨0, by omega, rfl, ⟨fun j h hj => by omega, fun j h hj => by omega⟩, 0, rfl⟩
  case round =>
    obtain ⟨k, hk, rfl, hto, hq⟩ := hrel
    have HQ := hide hq
    have hb : Below w.heap.size w wr := by obtain ⟨q, rfl⟩ := hq; exact (Below.refl _ _).drewN q
    clear hq
    have HT := hide hto
    clear hto
    by_cases h : k < l.length
    · obtain ⟨b, off, rfl, hlt, ho⟩ := HA.out k h
      obtain ⟨c0, c1⟩ := ho.block (w' := wr) (hb.block b hlt)
      have hi0 : (0 : Int) ≤ (k : Int) := by omega
      have hi1 : (k : Int) < (l.length : Int) := by omega
      have hsz := HS.out _ (List.getElem_mem h)
      have hN := fun W => NameR.spec_any l[k].key W hsz.1
      unfold maxLen at hsz
      obtain ⟨s, hs⟩ : ∃ s, l[k] = s := ⟨_, rfl⟩
      rw [hs] at c0 c1 hN hsz
      have HE := hide hs
      clear hs ho
      cases hnm : NameR.nmB s.key
      · have HF : Hid (propsOk l = false) := ⟨propsOk_no fun hp => by have := hp.2.1 _ (List.getElem_mem h); rw [HE.out] at this; simp [propOk, hnm] at this⟩
        simp only [hnm] at hN
        go_wp2_with fail
        go_quiet (first | (go_at_call 53; refine Calls.quiet_of_same (hN _)))
        go_wp2
        go_ret
        exact ⟨by rw [HF.out]; rfl, drew_more HQ.out _⟩
      · simp only [hnm] at hN
        by_cases hv : (s.value.size : Int) ≤ 40
        · have hv2 : decide ((40 : Int) < (s.value.size : Int)) = false := by simp; omega
          rcases Nat.eq_zero_or_pos k with hk0 | hk0
          · subst hk0
            simp only [Nat.zero_mul, Nat.add_zero] at c0 c1
            go_wp2_with fail
            go_quiet (first | (go_at_call 53; refine Calls.quiet_of_same (hN _)))
            go_wp2
            go_roundw
            case rel =>
              refine ⟨1, by omega, by go_num, ⟨fun j hj hjk => ?_, fun j hj hjk => by omega⟩, drew_more HQ.out _⟩
              obtain rfl : j = 0 := by omega
              rw [HE.out]
              simp [propOk, hnm]; omega
            case measure => simp [intOf]; omega
          · obtain ⟨m, rfl⟩ : ∃ m, k = m + 1 := ⟨k - 1, by omega⟩
            obtain ⟨b', off', hq, hlt', ho'⟩ := HA.out m (by omega)
            cases hq
            obtain ⟨d0, d1⟩ := ho'.block (w' := wr) (hb.block b hlt)
            have hm0 : (0 : Int) ≤ (m : Int) := by omega
            have hm1 : (m : Int) < (l.length : Int) := by omega
            have hm2 : (0 : Int) < (m : Int) + 1 := by omega
            have hW : IntKind.i64.wrap (m : Int) = (m : Int) := by rw [IntKind.wrap_i64]; omega
            have hW2 : wrap64 (m : Int) = (m : Int) := by unfold wrap64; omega
            cases hkl : keyLt l[m].key s.key
            · have HF : Hid (propsOk l = false) := ⟨propsOk_no fun hp => by have := hp.2.2 m h; rw [HE.out, hkl] at this; cases this⟩
              unfold keyLt at hkl
              go_wp2_with fail
              go_quiet (first | (go_at_call 53; refine Calls.quiet_of_same (hN _)))
              go_wp2
              go_ret
              exact ⟨by rw [HF.out]; rfl, drew_more HQ.out _⟩
            · have HK := hide hkl
              unfold keyLt at hkl
              go_wp2_with fail
              go_quiet (first | (go_at_call 53; refine Calls.quiet_of_same (hN _)))
              go_wp2
              go_roundw
              case rel =>
                refine ⟨m + 2, by omega, by go_num, ⟨fun j hj hjk => ?_, fun j hj hjk => ?_⟩, drew_more HQ.out _⟩
                · rcases Nat.lt_or_ge j (m + 1) with h' | h'
                  · exact HT.out.1 j hj h'
                  · obtain rfl : j = m + 1 := by omega
                    rw [HE.out]
                    simp [propOk, hnm]; omega
                · rcases Nat.lt_or_ge j m with h' | h'
                  · exact HT.out.2 j hj (by omega)
                  · obtain rfl : j = m := by omega
                    rw [HE.out]
                    exact HK.out
              case measure => simp [intOf]; omega
        · have HF : Hid (propsOk l = false) := ⟨propsOk_no fun hp => by have := hp.2.1 _ (List.getElem_mem h); rw [HE.out] at this; simp [propOk] at this; omega⟩
          have hv' : (40 : Int) < (s.value.size : Int) := by omega
          go_wp2_with fail
          go_quiet (first | (go_at_call 53; refine Calls.quiet_of_same (hN _)))
          go_wp2
          go_ret
          exact ⟨by rw [HF.out]; rfl, drew_more HQ.out _⟩
    · obtain rfl : k = l.length := by omega
      go_wp2
      go_ret
      refine ⟨ret_bool ?_, HQ.out⟩
      have hT := HT.out
      by_cases h20 : l.length ≤ 20
      · rw [propsOk_yes ⟨h20, fun p hp => by obtain ⟨j, hj, rfl⟩ := List.getElem_of_mem hp; exact hT.1 j hj hj, fun i hi => hT.2 i hi hi⟩]
        simp; omega
      · rw [propsOk_no fun hp => h20 hp.1]
        simp; omega
end Go.Proofs.Ytcpgkalafkhlgae.OpR
namespace Go.Proofs.Ytcpgkalafkhlgae.OpR
open Go.ChangeShapes Go.WideShapes Go.ChangeAt Go.RowKit
set_option linter.unusedVariables false
/-- The worlds of a class. -/
structure Cls (S : World → Prop) where
  wd : World
  ok : S wd
theorem wp_region_class {ι : Type} (f : ι → World) {P : Program} {id : Nat} {Q : Exit → Act → World → Prop} {a : Act} {w : World} {l : List Oper} (hm : P.follows .mixedOrders = true) (hB : Region.lexB .any l.toArray = true) (i0 : ι) (h0 : f i0 = w.drew)
    (h : wpQuiet P l.toArray (fun w' => ∃ n, w' = f n) (fun a' => ∀ w', (∃ n, w' = f n) → Q .normal a' w') l a) : (Code.region id l.toArray true).wp P Q a w :=
  wp_region_quiet (C := fun w' => ∃ n, w' = f n) hm hB ⟨i0, h0.symm⟩ (by simpa using h)
end Go.Proofs.Ytcpgkalafkhlgae.OpR
namespace Go.Proofs.Ytcpgkalafkhlgae.OpR
open Go.ChangeShapes Go.WideShapes Go.ChangeAt Go.RowKit
set_option linter.unusedVariables false

theorem at_cases (l : List NodG) (x : Int) : (atI l x = -1 ∧ nodOf l x = none) ∨ ∃ (k : Nat) (hk : k < l.length), atI l x = k ∧ nodOf l x = some l[k] ∧ l[k].id = x := by
  unfold atI nodOf
  cases e : l.findIdx? (fun n => decide (n.id = x)) with
  | none =>
    refine .inl ⟨rfl, ?_⟩
    rw [List.find?_eq_none]
    intro n hn
    rw [List.findIdx?_eq_none_iff.1 e n hn]
    simp
  | some k =>
    obtain ⟨hk, h1, h2⟩ := List.findIdx?_eq_some_iff_getElem.1 e
    refine .inr ⟨k, hk, rfl, ?_, by simpa using h1⟩
    rw [List.find?_eq_some_iff_getElem]
    exact ⟨h1, k, hk, rfl, fun j hj => by simpa using h2 j hj⟩
/-- A variable of one cell, behind calls. -/
structure Box1 (w c : World) (g : Nat) (v : Value) (T : TypeId) : Prop where
  below : Below w.heap.size w c
  lies : c.heap[g]? = some (.cells #[v] T (0, 0))
theorem Box1.start (w : World) (v : Value) (T : TypeId) : Box1 w (w.alloc (.cells #[v] T)) w.heap.size v T := ⟨(Below.refl _ _).alloc (Nat.le_refl _) _, heap_alloc_new w _⟩
theorem Box1.step {w c c' : World} {g : Nat} {v : Value} {T : TypeId} (h : Box1 w c g v T) (hb : Below c.heap.size c c') : Box1 w c' g v T :=
  ⟨h.below.trans (hb.mono h.below.size), (hb.block _ (Array.getElem?_eq_some_iff.1 h.lies).1).trans h.lies⟩
theorem Box1.drew {w c : World} {g : Nat} {v : Value} {T : TypeId} (h : Box1 w c g v T) : Box1 w c.drew g v T := ⟨h.below.drew, h.lies⟩
theorem Box1.cell {w c : World} {g : Nat} {v : Value} {T : TypeId} (h : Box1 w c g v T) : c.cell? ⟨g, 0, none⟩ = some v := (cells1 h.lies).1

set_option maxRecDepth 100000 in
set_option maxHeartbeats 400000 in
theorem sEnds_any (l : List NodG) (ao : Option Addr) (cap : Nat) (x : Int) (w : World) (hl : l.length ≤ 1048576) (hA : NodesAt w ao l) :
    Calls Try.prog 55 #[.agg #[.slice ao l.length cap], .int .i64 x] w fun e w' => e = .returned (.bool (endsF (par l) (l.length + 1) x)) ∧ Below w.heap.size w w' := by
  have hat := fun x W (hW : Below w.heap.size w W) => sAt_any l ao cap x W (by unfold maxLen; omega) (hA.stays hW)
  have HT := hide hat
  have HA : Hid (NodesAt w ao l) := ⟨hA⟩
  clear hA hat
  go_enter Try.func55, Try.ntmps55
  go_wp2
  go_loopw [1, 5] (fun y i wr => ∃ (k : Nat) (z : Int), k ≤ l.length + 1 ∧ y = .int .i64 z ∧ i = .int .i64 k ∧ endsF (par l) (l.length + 1) x = endsF (par l) (l.length + 1 - k) z ∧ Box1 w wr w.heap.size (.slice ao l.length cap) 43) (fun _ i _ => l.length + 1 - (intOf i).toNat)
  case atStart => exact ⟨0, x, by omega, rfl, rfl, rfl, Box1.start w _ _⟩
  case round =>
    obtain ⟨k, z, hk, rfl, rfl, he, hbx⟩ := hrel
    have HE := hide he
    have HB := hide hbx
    have hc := hbx.cell
    clear he
    by_cases h : k ≤ l.length
    · have hi1 : (k : Int) ≤ (l.length : Int) := by omega
      have ek : l.length + 1 - k = (l.length - k) + 1 := by omega
      by_cases h0 : z = 0
      · have HF : Hid (endsF (par l) (l.length + 1) x = true) := ⟨by rw [HE.out, ek]; exact ends_low (.inl h0)⟩
        go_wp2
        go_ret
        exact ⟨by rw [HF.out]; rfl, HB.out.below⟩
      · by_cases h1 : z = 1
        · have HF : Hid (endsF (par l) (l.length + 1) x = true) := ⟨by rw [HE.out, ek]; exact ends_low (.inr h1)⟩
          go_wp2
          go_ret
          exact ⟨by rw [HF.out]; rfl, HB.out.below⟩
        · have b0 : (z == 0) = false := beq_eq_false_iff_ne.2 h0
          have b1 : (z == 1) = false := beq_eq_false_iff_ne.2 h1
          rcases at_cases l z with ⟨ea, en⟩ | ⟨j, hj, ea, en, _⟩
          · have HF : Hid (endsF (par l) (l.length + 1) x = false) := ⟨by rw [HE.out]; exact ends_stop h0 h1 (by unfold par; rw [en]; rfl)⟩
            have HEA := hide ea
            clear ea en ek
            go_wp2_with (first | (go_at_call 72; refine (HT.out z wr HB.out.below).mono ?_; rintro e w1 ⟨rfl, hb1⟩; rw [HEA.out]))
            go_ret
            exact ⟨by rw [HF.out]; rfl, (HB.out.step hb1).below⟩
          · have HEA := hide ea
            have HF : Hid (endsF (par l) (l.length + 1) x = endsF (par l) (l.length + 1 - (k + 1)) l[j].parent) := ⟨by rw [HE.out, ek, ends_step h0 h1 (show par l z = some l[j].parent by unfold par; rw [en]; rfl)]; congr 1; omega⟩
            obtain ⟨b, off, rfl, hlt, ho, _⟩ := HA.out j hj
            have hj0 : (0 : Int) ≤ (j : Int) := by omega
            have hj1 : (j : Int) < (l.length : Int) := by omega
            have HO := hide ho
            clear ea en ek ho hbx
            go_wp2_with (first | (go_at_call 72; refine (HT.out z wr HB.out.below).mono ?_; rintro e w1 ⟨rfl, hb1⟩; rw [HEA.out]; have hB1 := HB.out.step hb1; have hc1 := hB1.cell; obtain ⟨c0, c1, c2, c3⟩ := HO.out.block (hB1.below.block b hlt); clear hc))
            go_roundw
            case rel => exact ⟨k + 1, l[j].parent, by omega, rfl, by go_num, HF.out, hB1⟩
            case measure => simp [intOf]; omega
    · obtain rfl : k = l.length + 1 := by omega
      have HF : Hid (endsF (par l) (l.length + 1) x = false) := ⟨by rw [HE.out, Nat.sub_self]; rfl⟩
      go_wp2
      go_ret
      exact ⟨by rw [HF.out]; rfl, HB.out.below⟩

/-- What is known of the variables of the loop in TreeRight. -/
structure TreeV (w c : World) (n : NodG) (g : Nat) (v : Value) : Prop where
  below : Below w.heap.size w c
  tree : c.heap[w.heap.size]? = some (.cells #[v] 43 (0, 0))
  node : c.heap[g]? = some (.cells #[.int .i64 n.id, .int .i64 n.parent, .string n.name, .slice n.pao n.props.length n.pcap] 79 (0, 0))
theorem TreeV.step {w c c' : World} {n : NodG} {g : Nat} {v : Value} (h : TreeV w c n g v) (hb : Below c.heap.size c c') : TreeV w c' n g v :=
  ⟨h.below.trans (hb.mono h.below.size), (hb.block _ (Array.getElem?_eq_some_iff.1 h.tree).1).trans h.tree, (hb.block _ (Array.getElem?_eq_some_iff.1 h.node).1).trans h.node⟩
theorem TreeV.drew {w c : World} {n : NodG} {g : Nat} {v : Value} (h : TreeV w c n g v) : TreeV w c.drew n g v := ⟨h.below.drew, h.tree, h.node⟩

theorem TreeV.more {w c c' : World} {n : NodG} {g : Nat} {v : Value} (h : TreeV w c n g v) (hq : ∃ q, c' = c.drewN q) : TreeV w c' n g v := by
  obtain ⟨q, rfl⟩ := hq
  exact ⟨h.below.drewN q, h.tree, h.node⟩
theorem to_next {l : List NodG} {k : Nat} {n : NodG} (h1 : ∀ j (hj : j < l.length), j < k → nodOk l l[j] = true) {hk : k < l.length} (hn : l[k] = n) (ho : nodOk l n = true) : ∀ j (hj : j < l.length), j < k + 1 → nodOk l l[j] = true := by
  intro j hj hjk
  rcases Nat.lt_or_ge j k with h' | h'
  · exact h1 j hj h'
  · obtain rfl : j = k := by omega
    rw [hn]; exact ho
theorem rise_next {l : List NodG} {m : Nat} {n : NodG} (h1 : ∀ j (hj : j + 1 < l.length), j + 1 < m + 1 → l[j].id < l[j + 1].id) {hk : m + 1 < l.length} (hn : l[m + 1] = n) (ho : l[m].id < n.id) : ∀ j (hj : j + 1 < l.length), j + 1 < m + 1 + 1 → l[j].id < l[j + 1].id := by
  intro j hj hjk
  rcases Nat.lt_or_ge j m with h' | h'
  · exact h1 j hj (by omega)
  · obtain rfl : j = m := by omega
    rw [hn]; exact ho

set_option maxRecDepth 100000 in
set_option maxHeartbeats 1000000 in
theorem sTree_any (l : List NodG) (ao : Option Addr) (cap : Nat) (w : World) (hl : l.length ≤ 1048576) (hA : NodesAt w ao l) (hS : ∀ n ∈ l, Sized1 1048576 n) :
    Calls Try.prog 21 #[.agg #[.slice ao l.length cap]] w fun e w' => e = .returned (.bool (treeRight l)) ∧ Below w.heap.size w w' := by
  have hen := fun x W (hW : Below w.heap.size w W) => sEnds_any l ao cap x W hl (hA.stays hW)
  have hpr := fun n (hn : n ∈ l) W (hW : Below w.heap.size w W) => sProps_any n.props n.pao n.pcap W (by have := (hS n hn).2.1; unfold maxLen; omega) ((hA.props n hn).stays hW) (fun p hp => by have := (hS n hn).2.2 p hp; unfold maxLen; omega)
  have hnr := fun n (hn : n ∈ l) W => NameR.spec_any n.name W (by have := (hS n hn).1; unfold maxLen; omega)
  have HEN := hide hen
  have HPR := hide hpr
  have HNR := hide hnr
  have HA : Hid (NodesAt w ao l) := ⟨hA⟩
  clear hA hS hen hpr hnr
  by_cases h150 : l.length ≤ 150
  · go_enter Try.func21, Try.ntmps21
    go_wp2
    go_loopw [3] (fun i wr => ∃ (k : Nat), k ≤ l.length ∧ i = .int .i64 k ∧ (∀ j (hj : j < l.length), j < k → nodOk l l[j] = true) ∧ (∀ j (hj : j + 1 < l.length), j + 1 < k → l[j].id < l[j + 1].id) ∧ Box1 w wr w.heap.size (.slice ao l.length cap) 43) (fun i _ => l.length - (intOf i).toNat)
    case atStart => exact ⟨0, by omega, rfl, fun j _ h => by omega, fun j _ h => by omega, Box1.start w _ _⟩
    case round =>
      obtain ⟨k, hk, rfl, h1, h2, hbx⟩ := hrel
      have H1 := hide h1
      have H2 := hide h2
      have HB := hide hbx
      have hc := hbx.cell
      clear h1 h2
      by_cases h : k < l.length
      · obtain ⟨b, off, rfl, hlt, ho, _⟩ := HA.out k h
        obtain ⟨c0, c1, c2, c3⟩ := ho.block (hbx.below.block b hlt)
        have hi0 : (0 : Int) ≤ (k : Int) := by omega
        have hi1 : (k : Int) < (l.length : Int) := by omega
        have hmem : l[k] ∈ l := List.getElem_mem h
        obtain ⟨n, hn⟩ : ∃ n, l[k] = n := ⟨_, rfl⟩
        rw [hn] at c0 c1 c2 c3 hmem
        have HN := hide hn
        have HM := hide hmem
        clear hn hmem ho hbx
        go_wp2_with fail
        have hTV0 : TreeV w (wr.alloc (.cells #[.int .i64 n.id, .int .i64 n.parent, .string n.name, .slice n.pao n.props.length n.pcap] 79)) n wr.heap.size (.slice (some ⟨b, off, none⟩) l.length cap) :=
          ⟨HB.out.below.alloc HB.out.below.size _, (Below.heap_alloc _ _ _ (Array.getElem?_eq_some_iff.1 HB.out.lies).1).trans HB.out.lies, heap_alloc_new _ _⟩
        obtain ⟨X, hX⟩ : ∃ X, wr.alloc (.cells #[.int .i64 n.id, .int .i64 n.parent, .string n.name, .slice n.pao n.props.length n.pcap] 79) = X := ⟨_, rfl⟩
        rw [hX] at hTV0 ⊢
        have HTV := hide hTV0
        obtain ⟨t0, t1⟩ := cells1 hTV0.tree
        obtain ⟨n0, n1, n2, n3, _, _, _, _⟩ := cells4 hTV0.node
        clear hX c0 c1 c2 c3 hc hTV0
        have hNode : ∀ W, Calls Try.prog 52 #[.int .i64 n.id] W fun e w' => e = .returned (.bool (isIn n.id 2 1000000)) ∧ w' = W := fun W => (node_any n.id W).mono (fun e w' h => ⟨h.1, h.2.symm⟩)
        have hName := HNR.out n HM.out
        have HProps := hide (HPR.out n HM.out)
        cases hq1 : isIn n.id 2 1000000
        · simp only [hq1] at hNode
          have HF : Hid (treeRight l = false) := ⟨tree_no fun ht => by have := ht.2.2 n HM.out; simp [nodOk, hq1] at this⟩
          go_quiet (first | (go_at_call 52; refine Calls.quiet_of_same (hNode _)) | (go_at_call 53; refine Calls.quiet_of_same (hName _)) | (go_at_call 54; refine Calls.quiet_of (HProps.out _ (HTV.out.below.drewN _))))
          go_wp2
          go_ret
          exact ⟨by rw [HF.out]; rfl, HTV.out.below.drewN _⟩
        · simp only [hq1] at hNode
          rcases Nat.eq_zero_or_pos k with hk0 | hk0
          · subst hk0
            cases hq2 : NameR.nmB n.name
            · simp only [hq2] at hName
              have HF : Hid (treeRight l = false) := ⟨tree_no fun ht => by have := ht.2.2 n HM.out; simp [nodOk, hq2] at this⟩
              go_quiet (first | (go_at_call 52; refine Calls.quiet_of_same (hNode _)) | (go_at_call 53; refine Calls.quiet_of_same (hName _)) | (go_at_call 54; refine Calls.quiet_of (HProps.out _ (HTV.out.below.drewN _))))
              go_wp2
              go_ret
              exact ⟨by rw [HF.out]; rfl, HTV.out.below.drewN _⟩
            · simp only [hq2] at hName
              cases hq3 : propsOk n.props
              · have HProps := hide (fun W hW => by have := HPR.out n HM.out W hW; rw [hq3] at this; exact this)
                have HF : Hid (treeRight l = false) := ⟨tree_no fun ht => by have := ht.2.2 n HM.out; simp [nodOk, hq3] at this⟩
                go_quiet (first | (go_at_call 52; refine Calls.quiet_of_same (hNode _)) | (go_at_call 53; refine Calls.quiet_of_same (hName _)) | (go_at_call 54; refine Calls.quiet_of (HProps.out _ (HTV.out.below.drewN _))))
                go_wp2
                go_ret
                exact ⟨by rw [HF.out]; rfl, HTV.out.below.drewN _⟩
              · have HProps := hide (fun W hW => by have := HPR.out n HM.out W hW; rw [hq3] at this; exact this)
                cases hq4 : endsF (par l) (l.length + 1) n.id
                · have HEnds := hide (fun W hW => by have := HEN.out n.id W hW; rw [hq4] at this; exact this)
                  have HF : Hid (treeRight l = false) := ⟨tree_no fun ht => by have := ht.2.2 n HM.out; simp [nodOk, hq4] at this⟩
                  haveI : Nonempty (Cls fun W => TreeV w W n wr.heap.size (.slice (some ⟨b, off, none⟩) l.length cap)) := ⟨⟨X, HTV.out⟩⟩
                  have T0 : ∀ q : (Cls fun W => TreeV w W n wr.heap.size (.slice (some ⟨b, off, none⟩) l.length cap)), q.wd.cell? ⟨w.heap.size, 0, none⟩ = some (.slice (some ⟨b, off, none⟩) l.length cap) := fun q => (cells1 q.ok.tree).1
                  have N0 : ∀ q : (Cls fun W => TreeV w W n wr.heap.size (.slice (some ⟨b, off, none⟩) l.length cap)), q.wd.cell? ⟨wr.heap.size, 0, none⟩ = some (.int .i64 n.id) := fun q => (cells4 q.ok.node).1
                  have N2 : ∀ q : (Cls fun W => TreeV w W n wr.heap.size (.slice (some ⟨b, off, none⟩) l.length cap)), q.wd.cell? ⟨wr.heap.size, 2, none⟩ = some (.string n.name) := fun q => (cells4 q.ok.node).2.2.1
                  have N3 : ∀ q : (Cls fun W => TreeV w W n wr.heap.size (.slice (some ⟨b, off, none⟩) l.length cap)), q.wd.cell? ⟨wr.heap.size, 3, none⟩ = some (.slice n.pao n.props.length n.pcap) := fun q => (cells4 q.ok.node).2.2.2.1
                  refine wp_region_class (ι := (Cls fun W => TreeV w W n wr.heap.size (.slice (some ⟨b, off, none⟩) l.length cap))) Cls.wd (by kernel_rfl) (by kernel_rfl) ⟨X.drew, HTV.out.drew⟩ rfl ?_
                  clear t0 n0 n1 n2 n3
                  repeat (go_big_quiet_step (first | (go_at_call 52; refine (hNode _).mono ?_; rintro e w1 ⟨rfl, rfl⟩; exact ⟨rfl, _, rfl⟩) | (go_at_call 53; refine (hName _).mono ?_; rintro e w1 ⟨rfl, rfl⟩; exact ⟨rfl, _, rfl⟩) | (go_at_call 54; rename_i q; refine (HProps.out _ q.ok.below).mono ?_; rintro e w3 ⟨rfl, hw3⟩; exact ⟨rfl, ⟨w3, q.ok.more hw3⟩, rfl⟩) | (go_at_call 55; rename_i q; refine (HEnds.out _ q.ok.below).mono ?_; rintro e w4 ⟨rfl, hb4⟩; exact ⟨rfl, ⟨w4, q.ok.step hb4⟩, rfl⟩)))
                  refine wpQuiet_nil ?_
                  rintro _ ⟨⟨w4, hV4⟩, rfl⟩
                  have HV4 := hide hV4
                  clear T0 N0 N2 N3 hV4
                  go_wp2
                  go_ret
                  exact ⟨by rw [HF.out]; rfl, HV4.out.below⟩
                · have HEnds := hide (fun W hW => by have := HEN.out n.id W hW; rw [hq4] at this; exact this)
                  have HOK : Hid (nodOk l n = true) := ⟨by simp [nodOk, hq1, hq2, hq3, hq4]⟩
                  haveI : Nonempty (Cls fun W => TreeV w W n wr.heap.size (.slice (some ⟨b, off, none⟩) l.length cap)) := ⟨⟨X, HTV.out⟩⟩
                  have T0 : ∀ q : (Cls fun W => TreeV w W n wr.heap.size (.slice (some ⟨b, off, none⟩) l.length cap)), q.wd.cell? ⟨w.heap.size, 0, none⟩ = some (.slice (some ⟨b, off, none⟩) l.length cap) := fun q => (cells1 q.ok.tree).1
                  have N0 : ∀ q : (Cls fun W => TreeV w W n wr.heap.size (.slice (some ⟨b, off, none⟩) l.length cap)), q.wd.cell? ⟨wr.heap.size, 0, none⟩ = some (.int .i64 n.id) := fun q => (cells4 q.ok.node).1
                  have N2 : ∀ q : (Cls fun W => TreeV w W n wr.heap.size (.slice (some ⟨b, off, none⟩) l.length cap)), q.wd.cell? ⟨wr.heap.size, 2, none⟩ = some (.string n.name) := fun q => (cells4 q.ok.node).2.2.1
                  have N3 : ∀ q : (Cls fun W => TreeV w W n wr.heap.size (.slice (some ⟨b, off, none⟩) l.length cap)), q.wd.cell? ⟨wr.heap.size, 3, none⟩ = some (.slice n.pao n.props.length n.pcap) := fun q => (cells4 q.ok.node).2.2.2.1
                  refine wp_region_class (ι := (Cls fun W => TreeV w W n wr.heap.size (.slice (some ⟨b, off, none⟩) l.length cap))) Cls.wd (by kernel_rfl) (by kernel_rfl) ⟨X.drew, HTV.out.drew⟩ rfl ?_
                  clear t0 n0 n1 n2 n3
                  repeat (go_big_quiet_step (first | (go_at_call 52; refine (hNode _).mono ?_; rintro e w1 ⟨rfl, rfl⟩; exact ⟨rfl, _, rfl⟩) | (go_at_call 53; refine (hName _).mono ?_; rintro e w1 ⟨rfl, rfl⟩; exact ⟨rfl, _, rfl⟩) | (go_at_call 54; rename_i q; refine (HProps.out _ q.ok.below).mono ?_; rintro e w3 ⟨rfl, hw3⟩; exact ⟨rfl, ⟨w3, q.ok.more hw3⟩, rfl⟩) | (go_at_call 55; rename_i q; refine (HEnds.out _ q.ok.below).mono ?_; rintro e w4 ⟨rfl, hb4⟩; exact ⟨rfl, ⟨w4, q.ok.step hb4⟩, rfl⟩)))
                  refine wpQuiet_nil ?_
                  rintro _ ⟨⟨w4, hV4⟩, rfl⟩
                  have HV4 := hide hV4
                  clear T0 N0 N2 N3 hV4
                  go_wp2
                  go_roundw
                  case rel => exact ⟨0 + 1, by omega, by go_num, to_next H1.out HN.out HOK.out, fun j hj h => by omega, ⟨HV4.out.below, HV4.out.tree⟩⟩
                  case measure => simp [intOf]; omega
          · obtain ⟨m, rfl⟩ : ∃ m, k = m + 1 := ⟨k - 1, by omega⟩
            obtain ⟨b', off', hq, hlt', ho', _⟩ := HA.out m (by omega)
            cases hq
            obtain ⟨p0, _, _, _⟩ := ho'.block (HTV.out.below.block b hlt)
            have hm0 : (0 : Int) ≤ (m : Int) := by omega
            have hm1 : (m : Int) < (l.length : Int) := by omega
            have hm2 : (0 : Int) < (m : Int) + 1 := by omega
            have hW : IntKind.i64.wrap (m : Int) = (m : Int) := by rw [IntKind.wrap_i64]; omega
            have hW2 : wrap64 (m : Int) = (m : Int) := by unfold wrap64; omega
            have HO' := hide ho'
            clear ho'
            by_cases hri : l[m].id < n.id
            · have HRI := hide hri
              have hri2 : decide (n.id ≤ l[m].id) = false := by simp; omega
              cases hq2 : NameR.nmB n.name
              · simp only [hq2] at hName
                have HF : Hid (treeRight l = false) := ⟨tree_no fun ht => by have := ht.2.2 n HM.out; simp [nodOk, hq2] at this⟩
                go_quiet (first | (go_at_call 52; refine Calls.quiet_of_same (hNode _)) | (go_at_call 53; refine Calls.quiet_of_same (hName _)) | (go_at_call 54; refine Calls.quiet_of (HProps.out _ (HTV.out.below.drewN _))))
                go_wp2
                go_ret
                exact ⟨by rw [HF.out]; rfl, HTV.out.below.drewN _⟩
              · simp only [hq2] at hName
                cases hq3 : propsOk n.props
                · have HProps := hide (fun W hW => by have := HPR.out n HM.out W hW; rw [hq3] at this; exact this)
                  have HF : Hid (treeRight l = false) := ⟨tree_no fun ht => by have := ht.2.2 n HM.out; simp [nodOk, hq3] at this⟩
                  go_quiet (first | (go_at_call 52; refine Calls.quiet_of_same (hNode _)) | (go_at_call 53; refine Calls.quiet_of_same (hName _)) | (go_at_call 54; refine Calls.quiet_of (HProps.out _ (HTV.out.below.drewN _))))
                  go_wp2
                  go_ret
                  exact ⟨by rw [HF.out]; rfl, HTV.out.below.drewN _⟩
                · have HProps := hide (fun W hW => by have := HPR.out n HM.out W hW; rw [hq3] at this; exact this)
                  cases hq4 : endsF (par l) (l.length + 1) n.id
                  · have HEnds := hide (fun W hW => by have := HEN.out n.id W hW; rw [hq4] at this; exact this)
                    have HF : Hid (treeRight l = false) := ⟨tree_no fun ht => by have := ht.2.2 n HM.out; simp [nodOk, hq4] at this⟩
                    haveI : Nonempty (Cls fun W => TreeV w W n wr.heap.size (.slice (some ⟨b, off, none⟩) l.length cap)) := ⟨⟨X, HTV.out⟩⟩
                    have T0 : ∀ q : (Cls fun W => TreeV w W n wr.heap.size (.slice (some ⟨b, off, none⟩) l.length cap)), q.wd.cell? ⟨w.heap.size, 0, none⟩ = some (.slice (some ⟨b, off, none⟩) l.length cap) := fun q => (cells1 q.ok.tree).1
                    have N0 : ∀ q : (Cls fun W => TreeV w W n wr.heap.size (.slice (some ⟨b, off, none⟩) l.length cap)), q.wd.cell? ⟨wr.heap.size, 0, none⟩ = some (.int .i64 n.id) := fun q => (cells4 q.ok.node).1
                    have N2 : ∀ q : (Cls fun W => TreeV w W n wr.heap.size (.slice (some ⟨b, off, none⟩) l.length cap)), q.wd.cell? ⟨wr.heap.size, 2, none⟩ = some (.string n.name) := fun q => (cells4 q.ok.node).2.2.1
                    have N3 : ∀ q : (Cls fun W => TreeV w W n wr.heap.size (.slice (some ⟨b, off, none⟩) l.length cap)), q.wd.cell? ⟨wr.heap.size, 3, none⟩ = some (.slice n.pao n.props.length n.pcap) := fun q => (cells4 q.ok.node).2.2.2.1
                    have P0 : ∀ q : (Cls fun W => TreeV w W n wr.heap.size (.slice (some ⟨b, off, none⟩) l.length cap)), q.wd.cell? ⟨b, off + m * 4, none⟩ = some (.int .i64 l[m].id) := fun q => (HO'.out.block (q.ok.below.block b hlt)).1
                    refine wp_region_class (ι := (Cls fun W => TreeV w W n wr.heap.size (.slice (some ⟨b, off, none⟩) l.length cap))) Cls.wd (by kernel_rfl) (by kernel_rfl) ⟨X.drew, HTV.out.drew⟩ rfl ?_
                    clear t0 n0 n1 n2 n3 p0
                    repeat (go_big_quiet_step (first | (go_at_call 52; refine (hNode _).mono ?_; rintro e w1 ⟨rfl, rfl⟩; exact ⟨rfl, _, rfl⟩) | (go_at_call 53; refine (hName _).mono ?_; rintro e w1 ⟨rfl, rfl⟩; exact ⟨rfl, _, rfl⟩) | (go_at_call 54; rename_i q; refine (HProps.out _ q.ok.below).mono ?_; rintro e w3 ⟨rfl, hw3⟩; exact ⟨rfl, ⟨w3, q.ok.more hw3⟩, rfl⟩) | (go_at_call 55; rename_i q; refine (HEnds.out _ q.ok.below).mono ?_; rintro e w4 ⟨rfl, hb4⟩; exact ⟨rfl, ⟨w4, q.ok.step hb4⟩, rfl⟩)))
                    refine wpQuiet_nil ?_
                    rintro _ ⟨⟨w4, hV4⟩, rfl⟩
                    have HV4 := hide hV4
                    clear T0 N0 N2 N3 hV4 P0
                    go_wp2
                    go_ret
                    exact ⟨by rw [HF.out]; rfl, HV4.out.below⟩
                  · have HEnds := hide (fun W hW => by have := HEN.out n.id W hW; rw [hq4] at this; exact this)
                    have HOK : Hid (nodOk l n = true) := ⟨by simp [nodOk, hq1, hq2, hq3, hq4]⟩
                    haveI : Nonempty (Cls fun W => TreeV w W n wr.heap.size (.slice (some ⟨b, off, none⟩) l.length cap)) := ⟨⟨X, HTV.out⟩⟩
                    have T0 : ∀ q : (Cls fun W => TreeV w W n wr.heap.size (.slice (some ⟨b, off, none⟩) l.length cap)), q.wd.cell? ⟨w.heap.size, 0, none⟩ = some (.slice (some ⟨b, off, none⟩) l.length cap) := fun q => (cells1 q.ok.tree).1
                    have N0 : ∀ q : (Cls fun W => TreeV w W n wr.heap.size (.slice (some ⟨b, off, none⟩) l.length cap)), q.wd.cell? ⟨wr.heap.size, 0, none⟩ = some (.int .i64 n.id) := fun q => (cells4 q.ok.node).1
                    have N2 : ∀ q : (Cls fun W => TreeV w W n wr.heap.size (.slice (some ⟨b, off, none⟩) l.length cap)), q.wd.cell? ⟨wr.heap.size, 2, none⟩ = some (.string n.name) := fun q => (cells4 q.ok.node).2.2.1
                    have N3 : ∀ q : (Cls fun W => TreeV w W n wr.heap.size (.slice (some ⟨b, off, none⟩) l.length cap)), q.wd.cell? ⟨wr.heap.size, 3, none⟩ = some (.slice n.pao n.props.length n.pcap) := fun q => (cells4 q.ok.node).2.2.2.1
                    have P0 : ∀ q : (Cls fun W => TreeV w W n wr.heap.size (.slice (some ⟨b, off, none⟩) l.length cap)), q.wd.cell? ⟨b, off + m * 4, none⟩ = some (.int .i64 l[m].id) := fun q => (HO'.out.block (q.ok.below.block b hlt)).1
                    refine wp_region_class (ι := (Cls fun W => TreeV w W n wr.heap.size (.slice (some ⟨b, off, none⟩) l.length cap))) Cls.wd (by kernel_rfl) (by kernel_rfl) ⟨X.drew, HTV.out.drew⟩ rfl ?_
                    clear t0 n0 n1 n2 n3 p0
                    repeat (go_big_quiet_step (first | (go_at_call 52; refine (hNode _).mono ?_; rintro e w1 ⟨rfl, rfl⟩; exact ⟨rfl, _, rfl⟩) | (go_at_call 53; refine (hName _).mono ?_; rintro e w1 ⟨rfl, rfl⟩; exact ⟨rfl, _, rfl⟩) | (go_at_call 54; rename_i q; refine (HProps.out _ q.ok.below).mono ?_; rintro e w3 ⟨rfl, hw3⟩; exact ⟨rfl, ⟨w3, q.ok.more hw3⟩, rfl⟩) | (go_at_call 55; rename_i q; refine (HEnds.out _ q.ok.below).mono ?_; rintro e w4 ⟨rfl, hb4⟩; exact ⟨rfl, ⟨w4, q.ok.step hb4⟩, rfl⟩)))
                    refine wpQuiet_nil ?_
                    rintro _ ⟨⟨w4, hV4⟩, rfl⟩
                    have HV4 := hide hV4
                    clear T0 N0 N2 N3 hV4 P0
                    go_wp2
                    go_roundw
                    case rel => exact ⟨m + 1 + 1, by omega, by go_num, to_next H1.out HN.out HOK.out, rise_next H2.out HN.out HRI.out, ⟨HV4.out.below, HV4.out.tree⟩⟩
                    case measure => simp [intOf]; omega
            · have hri2 : n.id ≤ l[m].id := by omega
              have HF : Hid (treeRight l = false) := ⟨tree_no fun ht => by have := ht.2.1 m h; rw [HN.out] at this; exact hri this⟩
              go_quiet (first | (go_at_call 52; refine Calls.quiet_of_same (hNode _)) | (go_at_call 53; refine Calls.quiet_of_same (hName _)) | (go_at_call 54; refine Calls.quiet_of (HProps.out _ (HTV.out.below.drewN _))))
              go_wp2
              go_ret
              exact ⟨by rw [HF.out]; rfl, HTV.out.below.drewN _⟩
      · obtain rfl : k = l.length := by omega
        have HF : Hid (treeRight l = true) := ⟨tree_yes ⟨h150, fun i hi => H2.out i hi hi, fun n hn => by obtain ⟨j, hj, rfl⟩ := List.getElem_of_mem hn; exact H1.out j hj hj⟩⟩
        go_wp2
        go_ret
        exact ⟨by rw [HF.out]; rfl, HB.out.below⟩
  · have HF : Hid (treeRight l = false) := ⟨tree_no fun h => h150 h.1⟩
    go_enter Try.func21, Try.ntmps21
    go_wp2
    go_ret
    exact ⟨by rw [HF.out]; rfl, (Below.refl _ _).alloc (Nat.le_refl _) _⟩
end Go.Proofs.Ytcpgkalafkhlgae.OpR
namespace Go.Proofs.Ytcpgkalafkhlgae.OpR
open Go.ChangeShapes Go.WideShapes Go.ChangeAt Go.RowKit
set_option linter.unusedVariables false

set_option maxRecDepth 100000 in
set_option maxHeartbeats 400000 in
theorem nodAhead_any (a b : NodG) (w : World) :
    Calls Try.prog 58 #[a.agg, b.agg] w fun e w' => e = .returned (.bool (decide (a.id < b.id))) ∧ Below w.heap.size w w' := by
  unfold NodG.agg
  go_enter Try.func58, Try.ntmps58
  go_wp2
  go_ret
  exact ⟨rfl, ((Below.refl _ _).alloc (Nat.le_refl _) _).alloc (by simp) _⟩
set_option maxRecDepth 100000 in
set_option maxHeartbeats 400000 in
theorem propAhead_any (a b : PropV) (w : World) :
    Calls Try.prog 118 #[a.agg, b.agg] w fun e w' => e = .returned (.bool (keyLt a.key b.key)) ∧ Below w.heap.size w w' := by
  unfold PropV.agg
  go_enter Try.func118, Try.ntmps118
  go_wp2
  go_ret
  exact ⟨rfl, ((Below.refl _ _).alloc (Nat.le_refl _) _).alloc (by simp) _⟩

set_option maxRecDepth 100000 in
set_option maxHeartbeats 400000 in
theorem iRisesN_any (l : List NodG) (ao : Option Addr) (cap : Nat) (w : World) (hl : l.length ≤ maxLen) (hA : NodesAt w ao l) :
    Calls Try.prog 57 #[.slice ao l.length cap, .func (.func 58) #[] #[]] w fun e w' => e = .returned (.bool (risesN l)) ∧ Below w.heap.size w w' := by
  unfold maxLen at hl
  have HA : Hid (NodesAt w ao l) := ⟨hA⟩
  clear hA
  go_enter Try.func57, Try.ntmps57
  go_wp2
  go_loopw [5] (fun i wr => ∃ k : Nat, (k ≤ l.length ∨ k = 0) ∧ i = .int .i64 ((k : Int) + 1) ∧ (∀ j (h : j + 1 < l.length), j < k → l[j].id < l[j + 1].id) ∧ Below w.heap.size w wr) (fun i _ => l.length - (intOf i).toNat)
  case atStart => exact ⟨0, .inr rfl, by go_num, fun j h hj => by omega, Below.refl _ _⟩
  case round =>
    obtain ⟨k, hk, rfl, hal, hb⟩ := hrel
    have HL : Hid (∀ j (h : j + 1 < l.length), j < k → l[j].id < l[j + 1].id) := ⟨hal⟩
    clear hal hk
    by_cases h : k + 1 < l.length
    · obtain ⟨b, off, rfl, hlt, ho, _⟩ := HA.out (k + 1) h
      have hT : (((k : Int) + 1).toNat) = k + 1 := by omega
      have hi3 : (0 : Int) ≤ (k : Int) + 1 := by omega
      have hW : IntKind.i64.wrap (k : Int) = (k : Int) := by rw [IntKind.wrap_i64]; omega
      have hW2 : wrap64 (k : Int) = (k : Int) := by unfold wrap64; omega
      obtain ⟨c0, c1, c2, c3⟩ := ho.block (w' := wr) (hb.block b hlt)
      obtain ⟨b2, off2, hq, hlt2, ho2, _⟩ := HA.out k (by omega)
      cases hq
      obtain ⟨d0, d1, d2, d3⟩ := ho2.block (w' := wr) (hb.block b hlt)
      have hcall := nodAhead_any l[k] l[k + 1] wr.drew
      unfold NodG.agg at hcall
      have hi0 : (0 : Int) ≤ (k : Int) := by omega
      have hi1 : (k : Int) + 1 < (l.length : Int) := by omega
      have hi2 : (k : Int) < (l.length : Int) := by omega
      clear ho ho2
      by_cases ha : l[k].id < l[k + 1].id
      · have HA2 := hide ha
        rw [decide_eq_true ha] at hcall
        clear ha
        go_wp2
        go_region_with (go_at_call 58; refine hcall.mono ?_; rintro e w1 ⟨rfl, hb1⟩)
        all_goals (
          clear hcall c0 c1 c2 c3 d0 d1 d2 d3
          go_wp2
          go_roundw
          case rel =>
            refine ⟨k + 1, .inl (by omega), by go_num, fun j hj hjk => ?_, hb.drew.trans (hb1.mono hb.size)⟩
            rcases Nat.lt_or_ge j k with h' | h'
            · exact HL.out j hj h'
            · obtain rfl : j = k := by omega
              exact HA2.out
          case measure => simp [intOf]; omega)
      · have HF : Hid (risesN l = false) := ⟨risesN_no fun hr => ha (hr k h)⟩
        rw [decide_eq_false ha] at hcall
        clear ha
        go_wp2
        go_region_with (go_at_call 58; refine hcall.mono ?_; rintro e w1 ⟨rfl, hb1⟩)
        all_goals (
          clear hcall c0 c1 c2 c3 d0 d1 d2 d3
          go_wp2
          go_ret
          exact ⟨ret_bool (by rw [HF.out]), hb.drew.trans (hb1.mono hb.size)⟩)
    · have HF : Hid (risesN l = true) := ⟨risesN_yes fun j hj => HL.out j hj (by omega)⟩
      go_wp2
      go_ret
      exact ⟨ret_bool (by rw [HF.out]), hb⟩

set_option maxRecDepth 100000 in
set_option maxHeartbeats 400000 in
theorem iRisesP_any (l : List PropV) (ao : Option Addr) (cap : Nat) (w : World) (hl : l.length ≤ maxLen) (hA : PropsAt w ao l) :
    Calls Try.prog 117 #[.slice ao l.length cap, .func (.func 118) #[] #[]] w fun e w' => e = .returned (.bool (allTo l.length (propRise l))) ∧ Below w.heap.size w w' := by
  unfold maxLen at hl
  have HA : Hid (PropsAt w ao l) := ⟨hA⟩
  clear hA
  go_enter Try.func117, Try.ntmps117
  go_wp2
  go_loopw [5] (fun i wr => ∃ k : Nat, (k ≤ l.length ∨ k = 0) ∧ i = .int .i64 ((k : Int) + 1) ∧ (∀ j (h : j + 1 < l.length), j < k → keyLt l[j].key l[j + 1].key = true) ∧ Below w.heap.size w wr) (fun i _ => l.length - (intOf i).toNat)
  case atStart => exact ⟨0, .inr rfl, by go_num, fun j h hj => by omega, Below.refl _ _⟩
  case round =>
    obtain ⟨k, hk, rfl, hal, hb⟩ := hrel
    have HL : Hid (∀ j (h : j + 1 < l.length), j < k → keyLt l[j].key l[j + 1].key = true) := ⟨hal⟩
    clear hal hk
    by_cases h : k + 1 < l.length
    · obtain ⟨b, off, rfl, hlt, ho⟩ := HA.out (k + 1) h
      have hT : (((k : Int) + 1).toNat) = k + 1 := by omega
      have hi3 : (0 : Int) ≤ (k : Int) + 1 := by omega
      have hW : IntKind.i64.wrap (k : Int) = (k : Int) := by rw [IntKind.wrap_i64]; omega
      have hW2 : wrap64 (k : Int) = (k : Int) := by unfold wrap64; omega
      obtain ⟨c0, c1⟩ := ho.block (w' := wr) (hb.block b hlt)
      obtain ⟨b2, off2, hq, hlt2, ho2⟩ := HA.out k (by omega)
      cases hq
      obtain ⟨d0, d1⟩ := ho2.block (w' := wr) (hb.block b hlt)
      have hcall := propAhead_any l[k] l[k + 1] wr.drew
      unfold PropV.agg at hcall
      have hi0 : (0 : Int) ≤ (k : Int) := by omega
      have hi1 : (k : Int) + 1 < (l.length : Int) := by omega
      have hi2 : (k : Int) < (l.length : Int) := by omega
      clear ho ho2
      go_wp2
      go_region_with (go_at_call 118; refine hcall.mono ?_; rintro e w1 ⟨rfl, hb1⟩)
      all_goals (
        clear hcall c0 c1 d0 d1
        cases ha : keyLt l[k].key l[k + 1].key
        · have HF : Hid (allTo l.length (propRise l) = false) := ⟨bool_no (propRise_iff l) fun hr => by rw [hr k h] at ha; cases ha⟩
          go_wp2
          go_ret
          exact ⟨ret_bool (by rw [HF.out]), hb.drew.trans (hb1.mono hb.size)⟩
        · have HA2 := hide ha
          go_wp2
          go_roundw
          case rel =>
            refine ⟨k + 1, .inl (by omega), by go_num, fun j hj hjk => ?_, hb.drew.trans (hb1.mono hb.size)⟩
            rcases Nat.lt_or_ge j k with h' | h'
            · exact HL.out j hj h'
            · obtain rfl : j = k := by omega
              exact HA2.out
          case measure => simp [intOf]; omega)
    · have HF : Hid (allTo l.length (propRise l) = true) := ⟨(propRise_iff l).2 fun j hj => HL.out j hj (by omega)⟩
      go_wp2
      go_ret
      exact ⟨ret_bool (by rw [HF.out]), hb⟩

set_option maxRecDepth 100000 in
set_option maxHeartbeats 400000 in
theorem iProps_any (l : List PropV) (ao : Option Addr) (cap : Nat) (w : World) (hl : l.length ≤ maxLen) (hA : PropsAt w ao l) (hS : SizedP 1048576 l) :
    Calls Try.prog 94 #[.slice ao l.length cap] w fun e w' => e = .returned (.bool (propsOk l)) ∧ Below w.heap.size w w' := by
  have hri := iRisesP_any l ao cap w hl hA
  unfold maxLen at hl
  have HA : Hid (PropsAt w ao l) := ⟨hA⟩
  have HS := hide hS
  clear hA hS
  by_cases h20 : l.length ≤ 20
  · have h20' : decide ((20 : Int) < (l.length : Int)) = false := by simp; omega
    cases hr : allTo l.length (propRise l)
    · have HF : Hid (propsOk l = false) := ⟨propsOk_no fun hp => by rw [(propRise_iff l).2 hp.2.2] at hr; cases hr⟩
      rw [hr] at hri
      go_enter Try.func94, Try.ntmps94
      go_wp2_with (first | (go_at_call 117; refine hri.mono ?_; rintro e w1 ⟨rfl, hb1⟩))
      go_ret
      exact ⟨ret_bool (by rw [HF.out]), hb1⟩
    · have HR := hide ((propRise_iff l).1 hr)
      rw [hr] at hri
      go_enter Try.func94, Try.ntmps94
      go_wp2_with (first | (go_at_call 117; refine hri.mono ?_; rintro e w1 ⟨rfl, hb1⟩))
      clear hri
      go_loopw [15] (fun i wr => ∃ k : Nat, k ≤ l.length ∧ i = .int .i64 k ∧ (∀ j (h : j < l.length), j < k → propOk l[j] = true) ∧ Below w.heap.size w wr) (fun i _ => l.length - (intOf i).toNat)
      case atStart => exact ⟨0, by omega, rfl, fun j h hj => by omega, hb1⟩
      case round =>
        obtain ⟨k, hk, rfl, hal, hb⟩ := hrel
        have HL := hide hal
        clear hal
        by_cases h : k < l.length
        · obtain ⟨b, off, rfl, hlt, ho⟩ := HA.out k h
          obtain ⟨c0, c1⟩ := ho.block (w' := wr) (hb.block b hlt)
          have hi0 : (0 : Int) ≤ (k : Int) := by omega
          have hi1 : (k : Int) < (l.length : Int) := by omega
          have hsz := HS.out _ (List.getElem_mem h)
          have hN := fun W => NameR.impl_any l[k].key W (by unfold maxLen; omega)
          obtain ⟨s, hs⟩ : ∃ s, l[k] = s := ⟨_, rfl⟩
          rw [hs] at c0 c1 hN hsz
          have HE := hide hs
          clear hs ho
          cases hnm : NameR.nmB s.key
          · have HF : Hid (propsOk l = false) := ⟨propsOk_no fun hp => by have := hp.2.1 _ (List.getElem_mem h); rw [HE.out] at this; simp [propOk, hnm] at this⟩
            simp only [hnm] at hN
            go_wp2_with (first | (go_at_call 93; refine (hN _).mono ?_; rintro e w2 ⟨rfl, rfl⟩))
            go_ret
            exact ⟨ret_bool (by rw [HF.out]), hb.alloc hb.size _⟩
          · simp only [hnm] at hN
            by_cases hv : (s.value.size : Int) ≤ 40
            · have HP : Hid (propOk l[k] = true) := ⟨by rw [HE.out]; simp [propOk, hnm]; omega⟩
              have hv2 : decide ((40 : Int) < (s.value.size : Int)) = false := by simp; omega
              go_wp2_with (first | (go_at_call 93; refine (hN _).mono ?_; rintro e w2 ⟨rfl, rfl⟩))
              go_roundw
              case rel =>
                refine ⟨k + 1, by omega, by go_num, fun j hj hjk => ?_, hb.alloc hb.size _⟩
                rcases Nat.lt_or_ge j k with h' | h'
                · exact HL.out j hj h'
                · obtain rfl : j = k := by omega
                  exact HP.out
              case measure => simp [intOf]; omega
            · have HF : Hid (propsOk l = false) := ⟨propsOk_no fun hp => by have := hp.2.1 _ (List.getElem_mem h); rw [HE.out] at this; simp [propOk] at this; omega⟩
              have hv2 : (40 : Int) < (s.value.size : Int) := by omega
              go_wp2_with (first | (go_at_call 93; refine (hN _).mono ?_; rintro e w2 ⟨rfl, rfl⟩))
              go_ret
              exact ⟨ret_bool (by rw [HF.out]), hb.alloc hb.size _⟩
        · have HF : Hid (propsOk l = true) := ⟨propsOk_yes ⟨h20, fun p hp => by obtain ⟨j, hj, rfl⟩ := List.getElem_of_mem hp; exact HL.out j hj (by omega), HR.out⟩⟩
          go_wp2
          go_ret
          exact ⟨ret_bool (by rw [HF.out]), hb⟩
  · have HF : Hid (propsOk l = false) := ⟨propsOk_no fun hp => h20 hp.1⟩
    have h20' : (20 : Int) < (l.length : Int) := by omega
    clear hri
    go_enter Try.func94, Try.ntmps94
    go_wp2
    go_ret
    exact ⟨ret_bool (by rw [HF.out]), Below.refl _ _⟩
end Go.Proofs.Ytcpgkalafkhlgae.OpR
namespace Go.Proofs.Ytcpgkalafkhlgae.OpR
open Go.ChangeShapes Go.WideShapes Go.ChangeAt Go.RowKit
set_option linter.unusedVariables false

def In64 (x : Int) : Prop := -9223372036854775808 ≤ x ∧ x ≤ 9223372036854775807
def Rng (l : List NodG) : Prop := ∀ n ∈ l, In64 n.id ∧ In64 n.parent
def kvOf (l : List NodG) : List (Int × NodG) := l.map fun n => (n.id, n)
/-- The parent of what stands at a number. -/
def kvPar (m : List (Int × NodG)) (x : Int) : Option Int := (kvAt m x).map NodG.parent
theorem kvIns_end (x : Int) (n : NodG) : ∀ (m : List (Int × NodG)), (∀ p ∈ m, p.1 < x) → kvIns x n m = m ++ [(x, n)]
  | [], _ => rfl
  | q :: r, h => by
    have := h q (by simp)
    rw [kvIns, if_neg (by omega), kvIns_end x n r (fun p hp => h p (by simp [hp]))]
    rfl
theorem kvPut_end {x : Int} {n : NodG} {m : List (Int × NodG)} (h : ∀ p ∈ m, p.1 < x) : kvPut m x n = m ++ [(x, n)] := by
  have e : kvDel m x = m := List.filter_eq_self.2 fun p hp => by have := h p hp; simp; omega
  unfold kvPut
  rw [e, kvIns_end x n m h]
theorem kvOf_take {l : List NodG} (hr : RisesN l) {k : Nat} (hk : k < l.length) : kvPut (kvOf (l.take k)) l[k].id l[k] = kvOf (l.take (k + 1)) := by
  rw [kvPut_end]
  · unfold kvOf
    rw [List.take_add_one, List.getElem?_eq_getElem hk, Option.toList_some, List.map_append, List.map_cons, List.map_nil]
  · intro p hp
    obtain ⟨n, hn, rfl⟩ := List.mem_map.1 hp
    obtain ⟨j, hj, rfl⟩ := List.getElem_of_mem hn
    rw [List.getElem_take]
    have : j < k := by rw [List.length_take] at hj; omega
    exact rises_lt hr j k this hk
theorem kvAt_of (l : List NodG) (x : Int) : kvAt (kvOf l) x = nodOf l x := by
  unfold kvAt kvOf nodOf
  rw [List.find?_map, Option.map_map]
  show Option.map (fun n => n) (l.find? fun n => decide (n.id = x)) = _
  simp
theorem kvPar_of (l : List NodG) : kvPar (kvOf l) = par l := by
  funext x
  unfold kvPar par
  rw [kvAt_of]
theorem kvOf_len (l : List NodG) : (kvOf l).length = l.length := by simp [kvOf]

theorem turned_below {w w' : World} {a : World} {B C : Nat} (h : Below C a w) (ht : w.mapTurned w' B) (hB : C ≤ B) : Below C a w' := by
  obtain ⟨es, clock, es', clock', hb, rfl⟩ := ht
  exact h.grown (World.mapTurned.grown ⟨es, clock, es', clock', hb, rfl⟩) (Nat.le_of_lt (Nat.lt_of_le_of_lt hB (Array.getElem?_eq_some_iff.1 hb).1)) (fun k hk => by cases hk; exact hB)

/-- A variable that holds the map, and the map. -/
structure MapV (w c : World) (bx B : Nat) (m : List (Int × NodG)) : Prop where
  below : Below w.heap.size w c
  var : c.heap[bx]? = some (.cells #[.map (some B)] 87 (0, 0))
  map : MapAt c B m
theorem MapV.step {w c c' : World} {bx B : Nat} {m : List (Int × NodG)} (h : MapV w c bx B m) (hb : Below c.heap.size c c') : MapV w c' bx B m :=
  ⟨h.below.trans (hb.mono h.below.size), (hb.block _ (Array.getElem?_eq_some_iff.1 h.var).1).trans h.var, h.map.stays hb⟩
theorem MapV.cell {w c : World} {bx B : Nat} {m : List (Int × NodG)} (h : MapV w c bx B m) : c.cell? ⟨bx, 0, none⟩ = some (.map (some B)) := (cells1 h.var).1

set_option maxRecDepth 100000 in
set_option maxHeartbeats 400000 in
theorem nodesOf_any (l : List NodG) (ao : Option Addr) (cap : Nat) (w : World) (hl : l.length ≤ 1048576) (hr : RisesN l) (hg : Rng l) (hA : NodesAt w ao l) :
    Calls Try.prog 59 #[.agg #[.slice ao l.length cap]] w fun e w' => ∃ B, e = .returned (.map (some B)) ∧ w.heap.size ≤ B ∧ MapAt w' B (kvOf l) ∧ Below w.heap.size w w' := by
  have HA : Hid (NodesAt w ao l) := ⟨hA⟩
  have HR := hide hr
  have HG := hide hg
  have hmm := @run_makeMap Try.prog
  clear hA hr hg
  go_enter Try.func59, Try.ntmps59
  go_wp2
  clear hmm
  go_loopw [10] (fun i wr => ∃ k : Nat, k ≤ l.length ∧ i = .int .i64 k ∧ MapAt wr (w.heap.size + 1) (kvOf (l.take k)) ∧ Below w.heap.size w wr) (fun i _ => l.length - (intOf i).toNat)
  case atStart =>
    refine ⟨0, by omega, rfl, ?_, ((Below.refl _ _).alloc (Nat.le_refl _) _).alloc (by simp) _⟩
    have := MapAt.made (w.alloc (.cells #[.slice ao l.length cap] 43))
    simpa [kvOf] using this
  case round =>
    obtain ⟨k, hk, rfl, hM, hb⟩ := hrel
    by_cases h : k < l.length
    · obtain ⟨b, off, rfl, hlt, ho, _⟩ := HA.out k h
      obtain ⟨c0, c1, c2, c3⟩ := ho.block (w' := wr) (hb.block b hlt)
      have hi0 : (0 : Int) ≤ (k : Int) := by omega
      have hi1 : (k : Int) < (l.length : Int) := by omega
      have HM := hide hM
      have hlen : (kvOf (l.take k)).length < maxLen := by rw [kvOf_len, List.length_take]; unfold maxLen; omega
      have HL := hide hlen
      clear ho hM hlen
      go_wp2_with (first | (at_mapUpdate; refine wpList_put_node _ rfl _ _ _ rfl (w.heap.size + 1) (kvOf (l.take k)) rfl (HM.out.stays ((Below.refl _ _).alloc (Nat.le_refl _) _)) HL.out l[k].id (HG.out _ (List.getElem_mem h)).1 rfl l[k] rfl ?_; intro w1 hM1 ht1; have HM1 := hide hM1; have hb1 := turned_below (hb.alloc hb.size _) ht1 (by omega); clear hM1 ht1) | go_in)
      go_roundw
      case rel => exact ⟨k + 1, by omega, by go_num, by rw [← kvOf_take HR.out h]; exact HM1.out, hb1⟩
      case measure => simp [intOf]; omega
    · obtain rfl : k = l.length := by omega
      have HM : Hid (MapAt wr (w.heap.size + 1) (kvOf l)) := ⟨by rw [List.take_length] at hM; exact hM⟩
      clear hM
      go_wp2
      go_ret
      exact ⟨_, rfl, by omega, HM.out, hb⟩

set_option maxRecDepth 100000 in
set_option maxHeartbeats 400000 in
theorem above_any (B : Nat) (w : World) :
    Calls Try.prog 75 #[.map (some B)] w fun e w' => e = .returned (.func (.func 107) #[] #[.pointer (some ⟨w.heap.size, 0, none⟩)]) ∧ w'.heap[w.heap.size]? = some (.cells #[.map (some B)] 87 (0, 0)) ∧ Below w.heap.size w w' := by
  go_enter Try.func75, Try.ntmps75
  go_wp2
  go_ret
  exact ⟨rfl, heap_alloc_new w _, (Below.refl _ _).alloc (Nat.le_refl _) _⟩

def RngM (m : List (Int × NodG)) : Prop := ∀ p ∈ m, In64 p.2.parent
theorem RngM.at {m : List (Int × NodG)} (h : RngM m) {x : Int} {n : NodG} (hn : kvAt m x = some n) : In64 n.parent := by
  unfold kvAt at hn
  obtain ⟨p, hp, rfl⟩ := Option.map_eq_some_iff.1 hn
  exact h p (List.mem_of_find?_eq_some hp)
set_option maxRecDepth 100000 in
set_option maxHeartbeats 400000 in
theorem aboveIn_any (m : List (Int × NodG)) (bx B : Nat) (x y : Int) (w : World) (hl : m.length ≤ 1048576) (hg : RngM m) (hx : In64 x) (hv : w.heap[bx]? = some (.cells #[.map (some B)] 87 (0, 0))) (hM : MapAt w B m) :
    Calls Try.prog 107 #[.int .i64 x, .int .i64 y, .pointer (some ⟨bx, 0, none⟩)] w fun e w' => e = .returned (.bool (abF (kvPar m) y (m.length + 1) x)) ∧ Below w.heap.size w w' := by
  have HV := hide (MapV.mk (Below.refl w.heap.size w) hv hM)
  have HM := hide hM
  have HG := hide hg
  have hc := (cells1 hv).1
  clear hM hg hv
  go_enter Try.func107, Try.ntmps107
  go_wp2_with (first | (at_len; refine wpList_len_nodes _ rfl _ rfl B m rfl HM.out ?_) | go_in)
  clear hc
  go_loopw [0, 11] (fun z i wr => ∃ (k : Nat) (v : Int), k ≤ m.length + 1 ∧ z = .int .i64 v ∧ i = .int .i64 k ∧ In64 v ∧ abF (kvPar m) y (m.length + 1) x = abF (kvPar m) y (m.length + 1 - k) v ∧ MapV w wr bx B m) (fun _ i _ => m.length + 1 - (intOf i).toNat)
  case atStart => exact ⟨0, x, by omega, rfl, rfl, hx, rfl, HV.out⟩
  case round =>
    obtain ⟨k, v, hk, rfl, rfl, hv64, he, hmv⟩ := hrel
    have HE := hide he
    have HW := hide hmv
    have H64 := hide hv64
    have hc := hmv.cell
    clear he hmv hv64
    by_cases h : k ≤ m.length
    · have hi1 : (k : Int) < (m.length : Int) + 1 := by omega
      have ek : m.length + 1 - k = (m.length - k) + 1 := by omega
      by_cases hvy : v = y
      · have HF : Hid (abF (kvPar m) y (m.length + 1) x = true) := ⟨by rw [HE.out, ek]; simp [abF, hvy]⟩
        have hvy' : (v == y) = true := beq_iff_eq.2 hvy
        clear ek hvy
        go_wp2
        go_ret
        exact ⟨ret_bool (by rw [HF.out]), HW.out.below⟩
      · have hvy' : (v == y) = false := beq_eq_false_iff_ne.2 hvy
        cases ha : kvAt m v with
        | none =>
          have HF : Hid (abF (kvPar m) y (m.length + 1) x = false) := ⟨by rw [HE.out, ek]; simp [abF, hvy, kvPar, ha]⟩
          have HAt := hide ha
          clear ek hvy ha
          go_wp2_with (first | (at_lookup; refine wpList_look_none _ rfl _ _ rfl B m rfl HW.out.map v H64.out rfl HAt.out ?_) | go_in)
          go_ret
          exact ⟨ret_bool (by rw [HF.out]), HW.out.below.alloc HW.out.below.size _⟩
        | some n =>
          have HF : Hid (abF (kvPar m) y (m.length + 1) x = abF (kvPar m) y (m.length + 1 - (k + 1)) n.parent) := ⟨by
            rw [HE.out, ek]
            simp only [abF, hvy, if_false, kvPar, ha, Option.map_some]
            congr 1; omega⟩
          have HAt := hide ha
          clear ek hvy ha
          go_wp2_with (first | (at_lookup; refine wpList_look_some _ rfl _ _ rfl B m rfl HW.out.map v H64.out rfl n HAt.out ?_) | go_in)
          go_roundw
          case rel => exact ⟨k + 1, n.parent, by omega, rfl, by go_num, HG.out.at HAt.out, HF.out, HW.out.step ((Below.refl _ _).alloc (Nat.le_refl _) _)⟩
          case measure => simp [intOf]; omega
    · obtain rfl : k = m.length + 1 := by omega
      have HF : Hid (abF (kvPar m) y (m.length + 1) x = false) := ⟨by rw [HE.out, Nat.sub_self]; rfl⟩
      go_wp2
      go_ret
      exact ⟨ret_bool (by rw [HF.out]), HW.out.below⟩
end Go.Proofs.Ytcpgkalafkhlgae.OpR
namespace Go.Proofs.Ytcpgkalafkhlgae.OpR
open Go.ChangeShapes Go.WideShapes Go.ChangeAt Go.RowKit
set_option linter.unusedVariables false

/-- A variable of a node, behind calls. -/
structure Box4 (w c : World) (g : Nat) (n : NodG) : Prop where
  below : Below w.heap.size w c
  lies : c.heap[g]? = some (.cells #[.int .i64 n.id, .int .i64 n.parent, .string n.name, .slice n.pao n.props.length n.pcap] 79 (0, 0))
theorem Box4.start (w : World) (n : NodG) : Box4 w (w.alloc (.cells #[.int .i64 n.id, .int .i64 n.parent, .string n.name, .slice n.pao n.props.length n.pcap] 79)) w.heap.size n := ⟨(Below.refl _ _).alloc (Nat.le_refl _) _, heap_alloc_new w _⟩
theorem Box4.step {w c c' : World} {g : Nat} {n : NodG} (h : Box4 w c g n) (hb : Below c.heap.size c c') : Box4 w c' g n :=
  ⟨h.below.trans (hb.mono h.below.size), (hb.block _ (Array.getElem?_eq_some_iff.1 h.lies).1).trans h.lies⟩
def holdsB (m : List (Int × NodG)) (n : NodG) : Bool := isIn n.id 2 1000000 && (NameR.nmB n.name && (propsOk n.props && (abF (kvPar m) 0 (m.length + 1) n.id || abF (kvPar m) 1 (m.length + 1) n.id)))

set_option maxRecDepth 100000 in
set_option maxHeartbeats 1000000 in
theorem holds_any (m : List (Int × NodG)) (B : Nat) (n : NodG) (w : World) (hl : m.length ≤ 1048576) (hg : RngM m) (hx : In64 n.id) (hS : Sized1 1048576 n) (hP : PropsAt w n.pao n.props) (hM : MapAt w B m) :
    Calls Try.prog 60 #[.map (some B), n.agg] w fun e w' => e = .returned (.bool (holdsB m n)) ∧ Below w.heap.size w w' := by
  obtain ⟨hS1, hS2, hS3⟩ := hS
  have hNode : ∀ W, Calls Try.prog 92 #[.int .i64 n.id] W fun e w' => e = .returned (.bool (isIn n.id 2 1000000)) ∧ w' = W := fun W => (iNode_any n.id W).mono (fun e w' h => ⟨h.1, h.2.symm⟩)
  have hName := fun W => NameR.impl_any n.name W (by unfold maxLen; omega)
  have hpr := fun W (hW : Below w.heap.size w W) => iProps_any n.props n.pao n.pcap W (by unfold maxLen; omega) (hP.stays hW) hS3
  have hab := fun W y bx (hW : Below w.heap.size w W) hv => aboveIn_any m bx B n.id y W hl hg hx hv (hM.stays hW)
  have H4 := hide (Box4.start w n)
  clear hP hM hg hx
  unfold NodG.agg
  cases hq1 : isIn n.id 2 1000000
  · have HF : Hid (holdsB m n = false) := ⟨by simp [holdsB, hq1]⟩
    simp only [hq1] at hNode
    clear hpr hab
    go_enter Try.func60, Try.ntmps60
    go_wp2_with (first | (go_at_call 92; refine (hNode _).mono ?_; rintro e w1 ⟨rfl, rfl⟩))
    go_ret
    exact ⟨ret_bool (by rw [HF.out]), H4.out.below⟩
  · simp only [hq1] at hNode
    cases hq2 : NameR.nmB n.name
    · have HF : Hid (holdsB m n = false) := ⟨by simp [holdsB, hq2]⟩
      simp only [hq2] at hName
      clear hpr hab
      go_enter Try.func60, Try.ntmps60
      go_wp2_with (first | (go_at_call 92; refine (hNode _).mono ?_; rintro e w1 ⟨rfl, rfl⟩) | (go_at_call 93; refine (hName _).mono ?_; rintro e w1 ⟨rfl, rfl⟩))
      go_ret
      exact ⟨ret_bool (by rw [HF.out]), H4.out.below⟩
    · simp only [hq2] at hName
      cases hq3 : propsOk n.props
      · have HF : Hid (holdsB m n = false) := ⟨by simp [holdsB, hq3]⟩
        simp only [hq3] at hpr
        clear hab
        go_enter Try.func60, Try.ntmps60
        go_wp2_with (first | (go_at_call 92; refine (hNode _).mono ?_; rintro e w1 ⟨rfl, rfl⟩) | (go_at_call 93; refine (hName _).mono ?_; rintro e w1 ⟨rfl, rfl⟩) | (go_at_call 94; refine (hpr _ H4.out.below).mono ?_; rintro e w3 ⟨rfl, hb3⟩))
        go_ret
        exact ⟨ret_bool (by rw [HF.out]), (H4.out.step hb3).below⟩
      · simp only [hq3] at hpr
        have HAB := hide hab
        have HF : Hid (holdsB m n = (abF (kvPar m) 0 (m.length + 1) n.id || abF (kvPar m) 1 (m.length + 1) n.id)) := ⟨by simp [holdsB, hq1, hq2, hq3]⟩
        clear hab
        cases hq4 : abF (kvPar m) 0 (m.length + 1) n.id
        · have m1 : Hid True := ⟨trivial⟩
          go_enter Try.func60, Try.ntmps60
          go_wp2_with (first | (go_at_call 92; refine (hNode _).mono ?_; rintro e w1 ⟨rfl, rfl⟩) | (go_at_call 93; refine (hName _).mono ?_; rintro e w1 ⟨rfl, rfl⟩) | (go_at_call 94; refine (hpr _ H4.out.below).mono ?_; rintro e w3 ⟨rfl, hb3⟩; have H5 := hide (H4.out.step hb3); have HB3 := hide hb3; clear hb3) | (go_at_call 75; refine (above_any B _).mono ?_; rintro e w5 ⟨rfl, hv5, hb5⟩; have hbb5 := H5.out.step hb5; have H6 := hide hbb5; have HV5 := hide hv5; obtain ⟨k0, k1, k2, k3, _, _, _, _⟩ := cells4 hbb5.lies; clear hbb5 hv5 hb5) | (go_at_call 107; clear m1; refine (HAB.out _ 0 _ H6.out.below HV5.out).mono ?_; rintro e w6 ⟨rfl, hb6⟩; rw [hq4]; have hbb6 := H6.out.step hb6; have H7 := hide hbb6; have HV6 := hide ((hb6.block _ (Array.getElem?_eq_some_iff.1 HV5.out).1).trans HV5.out); clear k0 k1 k2 k3; obtain ⟨k0, k1, k2, k3, _, _, _, _⟩ := cells4 hbb6.lies; clear hbb6 hb6) | (go_at_call 107; refine (HAB.out _ 1 _ H7.out.below HV6.out).mono ?_; rintro e w7 ⟨rfl, hb7⟩))
          go_ret
          refine ⟨ret_bool ?_, (H7.out.step hb7).below⟩
          rw [HF.out, hq4]
          simp
        · go_enter Try.func60, Try.ntmps60
          go_wp2_with (first | (go_at_call 92; refine (hNode _).mono ?_; rintro e w1 ⟨rfl, rfl⟩) | (go_at_call 93; refine (hName _).mono ?_; rintro e w1 ⟨rfl, rfl⟩) | (go_at_call 94; refine (hpr _ H4.out.below).mono ?_; rintro e w3 ⟨rfl, hb3⟩; have H5 := hide (H4.out.step hb3); have HB3 := hide hb3; clear hb3) | (go_at_call 75; refine (above_any B _).mono ?_; rintro e w5 ⟨rfl, hv5, hb5⟩; have hbb5 := H5.out.step hb5; have H6 := hide hbb5; have HV5 := hide hv5; obtain ⟨k0, k1, k2, k3, _, _, _, _⟩ := cells4 hbb5.lies; clear hbb5 hv5 hb5) | (go_at_call 107; refine (HAB.out _ 0 _ H6.out.below HV5.out).mono ?_; rintro e w6 ⟨rfl, hb6⟩; rw [hq4]))
          go_ret
          refine ⟨ret_bool ?_, (H6.out.step hb6).below⟩
          rw [HF.out, hq4]
          simp
end Go.Proofs.Ytcpgkalafkhlgae.OpR
namespace Go.Proofs.Ytcpgkalafkhlgae.OpR
open Go.ChangeShapes Go.WideShapes Go.ChangeAt Go.RowKit
set_option linter.unusedVariables false

theorem holds_of (l : List NodG) (n : NodG) : holdsB (kvOf l) n = nodOkI l n := by
  unfold holdsB nodOkI
  rw [kvPar_of, kvOf_len]
theorem rngM_of {l : List NodG} (h : Rng l) : RngM (kvOf l) := fun p hp => by
  obtain ⟨n, hn, rfl⟩ := List.mem_map.1 hp
  exact (h n hn).2
theorem treeI_yes {l : List NodG} (h1 : l.length ≤ 150) (h2 : RisesN l) (h3 : ∀ n ∈ l, holdsB (kvOf l) n = true) : treeRight l = true := by
  unfold treeRight
  rw [← all_okI, risesN_yes h2, decide_eq_true h1, List.all_eq_true.2 fun n hn => by rw [← holds_of]; exact h3 n hn]
  rfl
theorem treeI_no {l : List NodG} {n : NodG} (hn : n ∈ l) (h : holdsB (kvOf l) n = false) : treeRight l = false := by
  refine Bool.eq_false_iff.2 fun ht => ?_
  unfold treeRight at ht
  rw [← all_okI, Bool.and_eq_true, Bool.and_eq_true, List.all_eq_true] at ht
  have := ht.2.2 n hn
  rw [← holds_of, h] at this
  cases this

set_option maxRecDepth 100000 in
set_option maxHeartbeats 1000000 in
theorem iTree_any (l : List NodG) (ao : Option Addr) (cap : Nat) (w : World) (hl : l.length ≤ 1048576) (hg : Rng l) (hA : NodesAt w ao l) (hS : ∀ n ∈ l, Sized1 1048576 n) :
    Calls Try.prog 23 #[.agg #[.slice ao l.length cap]] w fun e w' => e = .returned (.bool (treeRight l)) ∧ Below w.heap.size w w' := by
  have hri := fun W (hW : Below w.heap.size w W) => iRisesN_any l ao cap W (by unfold maxLen; omega) (hA.stays hW)
  have HA : Hid (NodesAt w ao l) := ⟨hA⟩
  have HS := hide hS
  have HG := hide hg
  have H1 := hide (Box1.start w (.slice ao l.length cap) 43)
  clear hA hS hg
  by_cases h150 : l.length ≤ 150
  · have h150' : decide ((150 : Int) < (l.length : Int)) = false := by simp; omega
    cases hr : risesN l
    · have HF : Hid (treeRight l = false) := ⟨tree_no fun h => by rw [risesN_yes h.2.1] at hr; cases hr⟩
      simp only [hr] at hri
      go_enter Try.func23, Try.ntmps23
      go_wp2_with (first | (go_at_call 57; refine (hri _ H1.out.below).mono ?_; rintro e w1 ⟨rfl, hb1⟩))
      go_ret
      exact ⟨ret_bool (by rw [HF.out]), (H1.out.step hb1).below⟩
    · have HR : Hid (RisesN l) := ⟨(risesN_iff l).1 hr⟩
      have hno := fun W (hW : Below w.heap.size w W) => nodesOf_any l ao cap W hl HR.out HG.out (HA.out.stays hW)
      simp only [hr] at hri
      have HNO := hide hno
      clear hno hr
      go_enter Try.func23, Try.ntmps23
      go_wp2_with (first | (go_at_call 57; refine (hri _ H1.out.below).mono ?_; rintro e w1 ⟨rfl, hb1⟩; have hbx1 := H1.out.step hb1; have H2 := hide hbx1; have hc1 := hbx1.cell; clear hri hbx1 hb1) | (go_at_call 59; refine (HNO.out _ H2.out.below).mono ?_; rintro e w2 ⟨B, rfl, hB, hM2, hb2⟩; have hbx2 := H2.out.step hb2; have H3 := hide hbx2; have HM := hide hM2; have hc2 := hbx2.cell; clear hc1 hbx2 hb2 hM2))
      clear hc2
      go_loopw [21] (fun i wr => ∃ k : Nat, k ≤ l.length ∧ i = .int .i64 k ∧ (∀ j (h : j < l.length), j < k → holdsB (kvOf l) l[j] = true) ∧ MapAt wr B (kvOf l) ∧ Box1 w wr w.heap.size (.slice ao l.length cap) 43) (fun i _ => l.length - (intOf i).toNat)
      case atStart => exact ⟨0, by omega, rfl, fun j h hj => by omega, HM.out, H3.out⟩
      case round =>
        obtain ⟨k, hk, rfl, hal, hM, hbx⟩ := hrel
        have HL := hide hal
        have HM' := hide hM
        have HB := hide hbx
        clear hal hM
        by_cases h : k < l.length
        · obtain ⟨b, off, rfl, hlt, ho, hp⟩ := HA.out k h
          obtain ⟨c0, c1, c2, c3⟩ := ho.block (w' := wr) (hbx.below.block b hlt)
          have hi0 : (0 : Int) ≤ (k : Int) := by omega
          have hi1 : (k : Int) < (l.length : Int) := by omega
          have hmem : l[k] ∈ l := List.getElem_mem h
          have hho := fun W (hW : Below wr.heap.size wr W) => holds_any (kvOf l) B l[k] W (by rw [kvOf_len]; exact hl) (rngM_of HG.out) (HG.out _ hmem).1 (HS.out _ hmem) ((hp.stays HB.out.below).stays hW) (HM'.out.stays hW)
          unfold NodG.agg at hho
          have HMem := hide hmem
          clear ho hp hbx hmem
          cases hh : holdsB (kvOf l) l[k]
          · have HF : Hid (treeRight l = false) := ⟨treeI_no HMem.out hh⟩
            simp only [hh] at hho
            go_wp2_with (first | (go_at_call 60; refine (hho _ ((Below.refl _ _).alloc (Nat.le_refl _) _)).mono ?_; rintro e w4 ⟨rfl, hb4⟩))
            go_ret
            exact ⟨ret_bool (by rw [HF.out]), ((HB.out.step ((Below.refl _ _).alloc (Nat.le_refl _) _)).step hb4).below⟩
          · have HH := hide hh
            simp only [hh] at hho
            clear hh
            go_wp2_with (first | (go_at_call 60; refine (hho _ ((Below.refl _ _).alloc (Nat.le_refl _) _)).mono ?_; rintro e w4 ⟨rfl, hb4⟩))
            go_roundw
            case rel =>
              refine ⟨k + 1, by omega, by go_num, fun j hj hjk => ?_, (HM'.out.stays ((Below.refl _ _).alloc (Nat.le_refl _) _)).stays hb4, (HB.out.step ((Below.refl _ _).alloc (Nat.le_refl _) _)).step hb4⟩
              rcases Nat.lt_or_ge j k with h' | h'
              · exact HL.out j hj h'
              · obtain rfl : j = k := by omega
                exact HH.out
            case measure => simp [intOf]; omega
        · obtain rfl : k = l.length := by omega
          have HF : Hid (treeRight l = true) := ⟨treeI_yes h150 HR.out fun n hn => by obtain ⟨j, hj, rfl⟩ := List.getElem_of_mem hn; exact HL.out j hj hj⟩
          go_wp2
          go_ret
          exact ⟨ret_bool (by rw [HF.out]), HB.out.below⟩
  · have HF : Hid (treeRight l = false) := ⟨tree_no fun h => h150 h.1⟩
    have h150' : (150 : Int) < (l.length : Int) := by omega
    clear hri
    go_enter Try.func23, Try.ntmps23
    go_wp2
    go_ret
    exact ⟨ret_bool (by rw [HF.out]), H1.out.below⟩
end Go.Proofs.Ytcpgkalafkhlgae.OpR
