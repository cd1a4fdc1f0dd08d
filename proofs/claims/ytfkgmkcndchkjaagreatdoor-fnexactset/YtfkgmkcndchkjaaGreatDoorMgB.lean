/- Proves what slices.Collect(maps.Values(nodes)) makes of a map of nodes: its nodes, each once, in some order, in a row of its own. Proves what impl.sorted makes of nodes: the same nodes, in order, in new memory. Proves what impl.ownNodes makes: the same nodes, in new memory down to the texts. Proves what a map of nodes makes as a tree: impl's (nodeMap).tree. Proves what spec.Above tells. A node put among nodes in order, and what becomes of the ways up. Plain mathematics. -/
import Derived.Test.YtfkgmkcndchkjaaGreatDoorMgA
import Derived.RangeFuncNested
import Derived.RangeFuncBound
import Derived.RangeFuncCalls
import Derived.RangeFuncLeaves
import Derived.Sort.MapsRangeIn
import Derived.Maps.AppendAt
import Derived.Maps.OwnIn
import Derived.Shelf.Abstract
import Derived.Shelf.RegionOpen
import Derived.OwnWalkIn
import Derived.TacticsInMore
import Derived.RegionIn
import Derived.LoopNIn
import Derived.LoopIn
namespace Go.Proofs.YtfkgmkcndchkjaaGreatDoor.OpR
open Go.ChangeShapes Go.WideShapes Go.ChangeAt Go.RowKit Go.Shelf
set_option linter.unusedVariables false
attribute [local go_sem] Oper.semAt_some

/-- What has come of the map, while the rest is still to come. -/
structure CollK (m : List (Int × NodG)) (left : Lit → Bool) (ps : List (Int × NodG)) : Prop where
  once : (ps.map Prod.fst).Nodup
  keys : ∀ x, x ∈ ps.map Prod.fst ↔ ((kvAt m x).isSome = true ∧ left (.int .i64 x) = false)
  vals : ∀ p ∈ ps, kvAt m p.1 = some p.2
theorem CollK.start (m : List (Int × NodG)) : CollK m (Maps.has (kvD m)) [] := ⟨by simp, fun x => by rw [kvD_has]; cases (kvAt m x).isSome <;> simp, by simp⟩
theorem CollK.step {m : List (Int × NodG)} {left : Lit → Bool} {ps : List (Int × NodG)} (h : CollK m left ps) {x : Int} {n : NodG} (hl : left (.int .i64 x) = true) (hn : kvAt m x = some n) : CollK m (fun z => left z && !z.sameKey (.int .i64 x)) (ps ++ [(x, n)]) := by
  refine ⟨?_, fun y => ?_, fun p hp => ?_⟩
  · rw [List.map_append, List.nodup_append]
    refine ⟨h.once, by simp, fun a ha b hb => ?_⟩
    simp only [List.map_cons, List.map_nil, List.mem_singleton] at hb
    subst hb
    intro e
    subst e
    have := ((h.keys a).1 ha).2
    rw [hl] at this
    cases this
  · rw [List.map_append, List.mem_append, h.keys y]
    simp only [List.map_cons, List.map_nil, List.mem_singleton, same_int]
    by_cases e : y = x
    · subst e; simp [hn]
    · simp [e]
  · rcases List.mem_append.1 hp with hp | hp
    · exact h.vals p hp
    · obtain rfl := List.mem_singleton.1 hp
      exact hn
/-- All have come. -/
def AllK (m : List (Int × NodG)) (xs : List NodG) : Prop := ∃ ps : List (Int × NodG), (ps.map Prod.fst).Nodup ∧ (∀ x, x ∈ ps.map Prod.fst ↔ (kvAt m x).isSome = true) ∧ (∀ p ∈ ps, kvAt m p.1 = some p.2) ∧ xs = ps.map Prod.snd

set_option maxRecDepth 100000 in
set_option maxHeartbeats 1000000 in
theorem values1_in (n : Nat) (hn : 1 ≤ n) (l Bm b : Nat) (m : List (Int × NodG)) (J Jx : List NodG → World → Prop)
    (hY : ∀ pre x W, J pre W → pre.length < m.length → YieldAt Fence.wide (n - 1) Tryz.prog l #[x.agg] W fun e W' =>
      (e = .returned (.bool true) ∧ J (pre ++ [x]) W' ∧ KeepsWalks W W') ∨ (e = .returned (.bool false) ∧ Jx (pre ++ [x]) W'))
    (W : World) (hJ : AbidesFrom W.heap.size J) (hm : W.cell? ⟨Bm, 0, none⟩ = some (.map (some b))) (hown : MapAt W b m) (h0 : J [] W) :
    CallsIn Fence.wide n Tryz.prog 182 #[.func (.yield l) #[] #[], .pointer (some ⟨Bm, 0, none⟩)] W fun e W' => (∃ v, e = .returned v) ∧
      ((∃ xs, AllK m xs ∧ J xs W') ∨ (∃ pre, True ∧ Jx pre W')) := by
  refine callsIn_of_wp Tryz.func182 rfl trivial ?_ rfl
  simp only [Tryz.ntmps182, List.size_toArray, List.length_cons, List.length_nil, Nat.reduceAdd, Nat.reduceSub, Array.replicate_succ, Array.replicate_zero, List.push_toArray, List.append_toArray, List.nil_append, List.cons_append]
  gi_wp2_with (first
    | (gi_at_range; refine wpListIn_range_own _ rfl _ 138 rfl 2 120 lawK Tryz.underlying138 _ b m.length _ rfl hown ?_; intro w0 hrg0 hg0 hs0)
    | gi_in)
  go_frame
  gi_loopw [4] (fun _ wr => ∃ (left : Lit → Bool) (cnt : Nat) (ps : List (Int × NodG)), wr.ranges Tryz.prog 2 rdN b W.heap.size m.length (kvD m) left cnt ∧ ps.length + cnt ≤ m.length ∧ CollK m left ps ∧ J (ps.map Prod.snd) wr)
    (fun _ wr => wr.rangeLeft b W.heap.size)
  case atStart =>
    exact ⟨_, _, [], hrg0, by simp [kvD_size], CollK.start m, hJ [] W w0 none h0 hg0 (fun r e => by cases e)⟩
  case round =>
    obtain ⟨left, cnt, ps, hrg, hcs, hC, hJs⟩ := hrel
    gi_wp2_with (first
      | (gi_at_next; refine wpListIn_next_ranges _ rfl _ rfl 2 lawK rdN (Value.int .i64) (fun v : Value => v) (fun key kl hk => by obtain ⟨x, hx, _⟩ := Maps.keyOf_int_inv Tryz.underlying2 hk; exact ⟨x, hx⟩) (fun v y hv => ⟨v, rfl⟩) b W.heap.size m.length _ _ _ rfl hrg ?_ ?_)
      | gi_in)
    · intro hc0 hl0
      gi_wp2
      go_end0
      exact ⟨⟨_, rfl⟩, .inl ⟨_, ⟨ps, hC.once, fun x => by rw [hC.keys x, hl0]; simp, hC.vals, rfl⟩, hJs⟩⟩
    · intro x c kl yd yp w2 cnt2 hkey hlk hv hat hrg2 hlt hg2 hs2 hen
      obtain ⟨x', ex, rfl, _⟩ := Maps.keyOf_int_inv Tryz.underlying2 hkey
      obtain rfl : x = x' := by simpa using ex
      obtain ⟨nd, hnd, rfl⟩ : ∃ nd, kvAt m x = some nd ∧ c = nd.agg := by
        have hc : yd = .held c := by simp only [rdN, Option.some.injEq, Prod.mk.injEq] at hv; exact hv.1.symm
        cases hk : kvAt m x with
        | none =>
          have e1 := hat .nil
          rw [kvD_none hk, hc] at e1
          cases e1
        | some nd =>
          refine ⟨nd, rfl, ?_⟩
          have e1 := hat .nil
          rw [kvD_some hk, hc] at e1
          simpa using e1.symm
      have hJ2 : J (ps.map Prod.snd) w2 := hJ _ wr w2 (some W.heap.size) hJs hg2 (fun r e => by cases e; exact ⟨Nat.le_refl _, hrg.iter_walk⟩)
      have hJ3 := hJ _ w2 (w2.alloc (.cells #[.int .i64 nd.id, .int .i64 nd.parent, .string nd.name, .slice nd.pao nd.props.length nd.pcap] 120)) none hJ2 (World.grownBy_alloc _ _ _) (fun r e => by cases e)
      obtain ⟨fn, tmps, assign, body, hy, hR⟩ := hY (ps.map Prod.snd) nd _ hJ3 (by simp; omega)
      have hC2 := hC.step hlk hnd
      have HC2 := hide hC2
      have HND := hide hnd
      unfold NodG.agg at hy hen ⊢
      clear hs2 hat hv hC2 hnd hC hkey
      gi_wp2
      refine hR.mono ?_
      rintro e W3 (⟨rfl, hJ4, hk3⟩ | ⟨rfl, hJx3⟩)
      · gi_wp2
        have hrg3 := (hrg2.alloc _).of_walks hk3
        go_roundw
        case rel => exact ⟨_, cnt2, ps ++ [(x, nd)], hrg3, by simp; omega, HC2.out, by simpa using hJ4⟩
        case measure => rw [hrg3.left_eq, hrg.left_eq]; exact hlt
      · gi_wp2
        refine bodyPost_ret (results_none rfl _ _ _) rfl ?_
        exact ⟨⟨_, rfl⟩, .inr ⟨_, trivial, hJx3⟩⟩

theorem values_stops (n : Nat) (hn : 1 ≤ n) (Bm b : Nat) (m : List (Int × NodG)) (w : World) (hBm : Bm < w.heap.size) (hm : w.cell? ⟨Bm, 0, none⟩ = some (.map (some b))) (hown : MapAt w b m) :
    SeqStopsK Fence.wide n Tryz.prog 182 #[.pointer (some ⟨Bm, 0, none⟩)] (fun x : NodG => #[x.agg]) KeepsWalks (AllK m) (fun _ => True) m.length w := fun l J Jx W hW hJ _ hY h0 =>
  values1_in n hn l Bm b m J Jx hY W hJ ((hW.cell (p := ⟨Bm, 0, none⟩) hBm).trans hm) (hown.stays hW) h0
theorem new4 (W : World) (x : NodG) : ∀ j u, x.cells[j]? = some u → (W.alloc (.cells #[.int .i64 x.id, .int .i64 x.parent, .string x.name, .slice x.pao x.props.length x.pcap] 120)).cell? ((⟨W.heap.size, 0, none⟩ : Addr).add j) = some u := by
  intro j u hu
  rw [Addr.add_lit]
  obtain ⟨h0, h1, h2, h3, _⟩ := cells4 (heap_alloc_new W (.cells #[.int .i64 x.id, .int .i64 x.parent, .string x.name, .slice x.pao x.props.length x.pcap] 120))
  match j, hu with
  | 0, hu => exact h0.trans hu
  | 1, hu => exact h1.trans hu
  | 2, hu => exact h2.trans hu
  | 3, hu => exact h3.trans hu
  | j + 4, hu => simp [NodG.cells] at hu
theorem one4 (x : NodG) : ∀ u ∈ x.cells, u.oneCell' = true := by
  intro u hu
  simp only [NodG.cells, List.mem_cons, List.not_mem_nil, or_false] at hu
  rcases hu with rfl | rfl | rfl | rfl <;> rfl
set_option maxRecDepth 100000 in
set_option maxHeartbeats 2000000 in
theorem appendSeq_in (n : Nat) (hn : 3 ≤ n) (Bm b : Nat) (m : List (Int × NodG)) (w : World) (hl : m.length ≤ 1048576) (hBm : Bm < w.heap.size) (hm : w.cell? ⟨Bm, 0, none⟩ = some (.map (some b))) (hown : MapAt w b m) :
    CallsIn Fence.wide n Tryz.prog 181 #[.slice none 0 0, .func (.func 182) #[] #[.pointer (some ⟨Bm, 0, none⟩)]] w fun e W' => ∃ v xs, e = .returned v ∧ AllK m xs ∧ W'.ownsRow w.heap.size 120 4 v xs.length (flatG NodG.cells xs) ∧ Below w.heap.size w W' := by
  have h1 : 1 ≤ n := by omega
  obtain ⟨i0, hi, hz0, hz1, hz2⟩ := info_parts infoNode
  refine callsIn_of_wp_marks Tryz.func181 rfl trivial ?_ rfl
  simp only [Tryz.ntmps181, List.size_toArray, List.length_cons, List.length_nil, Nat.reduceAdd, Nat.reduceSub, Array.replicate_succ, Array.replicate_zero, List.push_toArray, List.append_toArray, List.nil_append, List.cons_append]
  gi_wp2
  have bO := Boxed.new w 70 (.slice none 0 0)
  have hB0 : Below w.heap.size w (w.alloc (.cells #[.slice none 0 0] 70)) := (Below.refl _ w).alloc (Nat.le_refl _) _
  refine wpIn_rangeFunc_ownH rfl h1 (gf := 182) (lb := #[.pointer (some ⟨Bm, 0, none⟩)]) rfl trivial (enters_of Tryz.func182 (by kernel_rfl) rfl)
    (values_stops (n - 1) (by omega) Bm b m w hBm hm hown) walksK_t walksK_b hB0 (fun _ => rfl)
    (fun pre W => (∃ v, Boxed W w.heap.size 70 v ∧ W.ownsRow w.heap.size 120 4 v pre.length (flatG NodG.cells pre) ∧ True) ∧ Below w.heap.size w W)
    (fun _ _ _ => False)
    (OwnFrom.and (Own.from (holdsRow_own w.heap.size w.heap.size 70 120 4 (fun pre : List NodG => pre.length) (fun pre => flatG NodG.cells pre) (fun pre v => True)) _) (ownFrom_below (Nat.le_refl _) (by simp)))
    (fun _ _ _ _ _ hs _ _ => hs)
    ⟨⟨_, bO, World.ownsRow_nil _ _ _ _, trivial⟩, hB0⟩
    (fun x a' W => ∃ Bx, w.heap.size < Bx ∧ W.heap[Bx]? = some (.cells #[.int .i64 x.id, .int .i64 x.parent, .string x.name, .slice x.pao x.props.length x.pcap] 120 (0, 0)) ∧ a' = { tmps := #[.slice none 0 0, .func (.func 182) #[] #[.pointer (some ⟨Bm, 0, none⟩)], .pointer (some ⟨w.heap.size, 0, none⟩), undef, .slice none 0 0, .pointer (some ⟨Bx, 0, none⟩), .func (.func 182) #[] #[.pointer (some ⟨Bm, 0, none⟩)], .agg #[.int .i64 x.id, .int .i64 x.parent, .string x.name, .slice x.pao x.props.length x.pcap], undef, undef, undef, undef, undef], defers := [] })
    (fun x a' _ X Y row hs hg hr => by
      obtain ⟨Bx, e1, e2, e3⟩ := hs
      refine ⟨Bx, e1, (hg.block Bx (Array.getElem?_eq_some_iff.1 e2).1 (fun e => ?_)).trans e2, e3⟩
      obtain ⟨_, o, ho, hc⟩ := hr Bx e.symm
      rw [e2] at ho
      cases ho
      cases hc)
    ?assign ?body ?done ?stop
  case assign =>
    rintro l pre x W K ⟨⟨v, hv, hrow, _⟩, hB1⟩ hK
    unfold NodG.agg
    gi_wp2
    exact hK _ _ ((KeepsOthers.alloc _ _).from _) (KeepsWalks.alloc _ _) ⟨⟨v, hv.alloc _, hrow.alloc _, trivial⟩, hB1.alloc hB1.size _⟩ ⟨W.heap.size, hv.lt, heap_alloc_new W _, rfl⟩
  case body =>
    rintro l pre x a' W hl' ⟨r, hr⟩ ⟨⟨v, hv, hrow, _⟩, hB⟩ ⟨Bx, hBx, bX, rfl⟩ hlt
    have hc := hv.cell
    obtain ⟨x0, x1, x2, x3, _, _, _, _⟩ := cells4 bX
    gi_wp2_with (gi_at_builtin; refine wpListIn_append_own _ rfl _ _ 70 rfl w.heap.size 120 i0 _ 4 56 Tryz.underlying70 hi hz0 hz1 hz2 rfl (by decide) _ _ _ rfl (hrow.alloc _) ⟨W.heap.size, 0, none⟩ 1 1 x.cells rfl rfl (new4 W x) (one4 x) (by unfold maxLen; omega) (by omega) (by have := hB.size; simp; omega) ?_; intro v' w1 hown' hgrow _; obtain ⟨g', cap', rfl⟩ := ownsRow_succ hown'; obtain ⟨hv1, hv2, hr2, hk2, hb2⟩ := hv.appended (by decide) hrow hB.size (Nat.le_refl _) hown' hgrow; have hc1 := hv1.cell; have hf1 := hv1.frozen)
    exact ⟨hk2.from _, ⟨hk2.size, fun k o h hw => hk2.same k o h (Obj.not_cells_of_walk hw)⟩, ⟨_, hv2, by rw [flatG_app, List.length_append]; simpa [flatG] using hr2, trivial⟩, hB.trans hb2⟩
  case done =>
    rintro D ys W hD hS ⟨⟨v, hv, hrow, _⟩, hB⟩ hK
    have hc := hv.cell
    gi_wp2
    refine ⟨by simp, .inl ⟨_, _, rfl, run_takeDeferred hK, ?_⟩⟩
    exact ⟨_, results_tmp rfl _ _ _, v, ys, rfl, hS, ownsRow_putObj hrow _ hK rfl, hB.trans (belowK_b (w := w) (Nat.le_refl _) W D _ _ (by simp at hD; omega) hK rfl rfl)⟩
  case stop =>
    rintro D c pre W _ _ h _
    exact h.elim

set_option maxHeartbeats 1000000 in
theorem collect_in (n : Nat) (hn : 4 ≤ n) (Bm b : Nat) (m : List (Int × NodG)) (w : World) (hl : m.length ≤ 1048576) (hBm : Bm < w.heap.size) (hm : w.cell? ⟨Bm, 0, none⟩ = some (.map (some b))) (hown : MapAt w b m) :
    CallsIn Fence.wide n Tryz.prog 165 #[.func (.func 182) #[] #[.pointer (some ⟨Bm, 0, none⟩)]] w fun e W' => ∃ v xs, e = .returned v ∧ AllK m xs ∧ W'.ownsRow w.heap.size 120 4 v xs.length (flatG NodG.cells xs) ∧ Below w.heap.size w W' := by
  have h1 : 1 ≤ n := by omega
  refine callsIn_of_wp Tryz.func165 rfl trivial ?_ rfl
  simp only [Tryz.ntmps165, List.size_toArray, List.length_cons, List.length_nil, Nat.reduceAdd, Nat.reduceSub, Array.replicate_succ, Array.replicate_zero, List.push_toArray, List.append_toArray, List.nil_append, List.cons_append]
  gi_wp2_with (refine ⟨trivial, ?_⟩; gi_at_call 181; refine (appendSeq_in (n - 1) (by omega) Bm b m _ hl hBm hm hown).mono ?_; rintro e w' ⟨v, ss, rfl, hS, hrow, hb⟩)
  go_ret
  exact ⟨v, ss, rfl, hS, hrow, hb⟩
theorem collect_any (Bm b : Nat) (m : List (Int × NodG)) (w : World) (hl : m.length ≤ 1048576) (hBm : Bm < w.heap.size) (hm : w.cell? ⟨Bm, 0, none⟩ = some (.map (some b))) (hown : MapAt w b m) :
    Calls Tryz.prog 165 #[.func (.func 182) #[] #[.pointer (some ⟨Bm, 0, none⟩)]] w fun e W' => ∃ v xs, e = .returned v ∧ AllK m xs ∧ W'.ownsRow w.heap.size 120 4 v xs.length (flatG NodG.cells xs) ∧ Below w.heap.size w W' :=
  callsIn_wide.1 (collect_in 4 (Nat.le_refl _) Bm b m w hl hBm hm hown)
set_option maxRecDepth 100000 in
set_option maxHeartbeats 400000 in
theorem values_any (B : Nat) (w : World) :
    Calls Tryz.prog 166 #[.map (some B)] w fun e w' => e = .returned (.func (.func 182) #[] #[.pointer (some ⟨w.heap.size, 0, none⟩)]) ∧ w'.heap[w.heap.size]? = some (.cells #[.map (some B)] 138 (0, 0)) ∧ Below w.heap.size w w' := by
  go_enter Tryz.func166, Tryz.ntmps166
  go_wp2
  go_ret
  exact ⟨rfl, heap_alloc_new w _, (Below.refl _ _).alloc (Nat.le_refl _) _⟩
/-- What all of a map with different numbers come to. -/
theorem AllK.perm {m : List (Int × NodG)} {xs : List NodG} (h : AllK m xs) (hn : (m.map Prod.fst).Nodup) : xs.Perm (m.map Prod.snd) := by
  obtain ⟨ps, h1, h2, h3, rfl⟩ := h
  refine List.Perm.map _ ?_
  have nd : ∀ {l : List (Int × NodG)}, (l.map Prod.fst).Nodup → l.Nodup := fun h => List.Pairwise.of_map Prod.fst (fun a b hab e => hab (by rw [e])) h
  have atm : ∀ p, p ∈ m ↔ kvAt m p.1 = some p.2 := fun p => by
    constructor
    · intro hp
      cases hf : m.find? (fun q => decide (q.1 = p.1)) with
      | none =>
        have := List.find?_eq_none.1 hf p hp
        simp at this
      | some q =>
        have hq := List.mem_of_find?_eq_some hf
        have e : q.1 = p.1 := by simpa using List.find?_some hf
        have : q = p := by
          have hin := List.pairwise_map.1 hn
          rcases List.getElem_of_mem hq with ⟨i, hi, rfl⟩
          rcases List.getElem_of_mem hp with ⟨j, hj, rfl⟩
          have hpw := List.pairwise_iff_getElem.1 hin
          rcases Nat.lt_trichotomy i j with h | h | h
          · exact absurd e (hpw i j hi hj h)
          · subst h; rfl
          · exact absurd e.symm (hpw j i hj hi h)
        subst this
        unfold kvAt
        rw [hf]
        rfl
    · intro h
      unfold kvAt at h
      obtain ⟨q, hq, e⟩ := Option.map_eq_some_iff.1 h
      have h1 := List.mem_of_find?_eq_some hq
      have h2 : q.1 = p.1 := by simpa using List.find?_some hq
      have : q = p := Prod.ext h2 e
      rw [← this]
      exact h1
  rw [List.perm_ext_iff_of_nodup (nd h1) (nd hn)]
  intro p
  rw [atm p]
  constructor
  · exact h3 p
  · intro hp
    have : p.1 ∈ ps.map Prod.fst := (h2 p.1).2 (by rw [hp]; rfl)
    obtain ⟨q, hq, e⟩ := List.mem_map.1 this
    have hv := h3 q hq
    rw [e, hp] at hv
    have : q = p := Prod.ext e (by simpa using hv.symm)
    rwa [← this]
end Go.Proofs.YtfkgmkcndchkjaaGreatDoor.OpR
namespace Go.Proofs.YtfkgmkcndchkjaaGreatDoor.OpR
open Go.ChangeShapes Go.WideShapes Go.ChangeAt Go.RowKit
set_option linter.unusedVariables false

def OrdN (l : List NodG) : Prop := l.Pairwise (fun a b => leN a b = true)
theorem leN_iff (a b : NodG) : leN a b = true ↔ a.id ≤ b.id := by simp [leN, ltN]
theorem mrgN_ord {a b : List NodG} (ha : OrdN a) (hb : OrdN b) : OrdN (mrgN a b) :=
  List.pairwise_merge (fun a b c h1 h2 => by rw [leN_iff] at *; omega) (fun a b => by rw [Bool.or_eq_true, leN_iff, leN_iff]; omega) a b ha hb
theorem ordN_short {l : List NodG} (h : l.length < 2) : OrdN l := by
  match l, h with
  | [], _ => simp [OrdN]
  | [x], _ => simp [OrdN]

set_option maxRecDepth 100000 in
set_option maxHeartbeats 1000000 in
theorem sortedN_any : ∀ (n : Nat) (l : List NodG) (ao : Option Addr) (cap : Nat) (w : World), l.length ≤ n → l.length ≤ 400 → l.length ≤ cap → NCells w ao l →
    Calls Tryz.prog 168 #[.slice ao l.length cap, aheadFnN] w fun e w' => ∃ v s, e = .returned v ∧ s.Perm l ∧ OrdN s ∧ w'.ownsRow w.heap.size 120 4 v s.length (flatG NodG.cells s) ∧ Below w.heap.size w w' := by
  intro n
  induction n with
  | zero =>
    intro l ao cap w hn h400 hcap hA
    have HA : Hid (NCells w ao l) := ⟨hA⟩
    clear hA
    unfold aheadFnN
    go_enter Tryz.func168, Tryz.ntmps168
    go_wp2_with (at_builtin; refine wpList_append_N rfl _ _ rfl w.heap.size (.slice none 0 0) [] rfl (World.ownsRow_nil w _ _ _) ao l cap rfl HA.out (by simp; omega) (Nat.le_refl _) ?_)
    intro v1 w1 hown1 hgr1 hne1
    have hB1 : Below w.heap.size w w1 := (Below.refl _ _).grown hgr1 (Nat.le_refl _) (fun j hj => by simp [Value.ownBlock] at hj)
    have HF : Hid (w1.ownsRow w.heap.size 120 4 v1 l.length (flatG NodG.cells l)) := ⟨by simpa using hown1⟩
    clear hown1 hgr1 hne1
    go_wp2
    go_ret
    exact ⟨v1, l, rfl, List.Perm.refl _, ordN_short (by omega), HF.out, hB1⟩
  | succ n ih =>
    intro l ao cap w hn h400 hcap hA
    by_cases h2 : l.length < 2
    · have HA : Hid (NCells w ao l) := ⟨hA⟩
      clear hA ih
      unfold aheadFnN
      go_enter Tryz.func168, Tryz.ntmps168
      go_wp2_with (at_builtin; refine wpList_append_N rfl _ _ rfl w.heap.size (.slice none 0 0) [] rfl (World.ownsRow_nil w _ _ _) ao l cap rfl HA.out (by simp; omega) (Nat.le_refl _) ?_)
      intro v1 w1 hown1 hgr1 hne1
      have hB1 : Below w.heap.size w w1 := (Below.refl _ _).grown hgr1 (Nat.le_refl _) (fun j hj => by simp [Value.ownBlock] at hj)
      have HF : Hid (w1.ownsRow w.heap.size 120 4 v1 l.length (flatG NodG.cells l)) := ⟨by simpa using hown1⟩
      clear hown1 hgr1 hne1
      go_wp2
      go_ret
      exact ⟨v1, l, rfl, List.Perm.refl _, ordN_short h2, HF.out, hB1⟩
    · obtain ⟨g, o, rfl, hlt, _⟩ := hA 0 (by omega)
      have HA : Hid (NCells w (some ⟨g, o, none⟩) l) := ⟨hA⟩
      clear hA
      have e1 : (l.take (l.length / 2)).length = l.length / 2 := by rw [List.length_take]; omega
      have e2 : (l.drop (l.length / 2)).length = l.length - l.length / 2 := by rw [List.length_drop]
      have ih1 := fun W (hW : Below w.heap.size w W) => ih (l.take (l.length / 2)) (some ⟨g, o, none⟩) (l.length / 2) W (by omega) (by omega) (by omega) ((HA.out.stays hW).take _)
      have ih2 := fun W (hW : Below w.heap.size w W) => ih (l.drop (l.length / 2)) (some ⟨g, fromN o cap (l.length / 2), none⟩) (cap - l.length / 2) W (by omega) (by omega) (by omega) ((HA.out.stays hW).from _ hcap)
      simp only [e1] at ih1
      simp only [e2] at ih2
      have hsl1 := fun W => slice_cutN W g o l.length cap (l.length / 2) ((l.length : Int) / 2) (by omega) (by omega)
      have hsl2 := fun W => slice_fromN W g o l.length cap (l.length / 2) ((l.length : Int) / 2) (by omega) (by omega)
      have hmg := fun a b ao bo ca cb W h1 h2 h3 h4 h5 h6 => mergedN_any a b ao bo ca cb W h1 h2 h3 h4 h5 h6
      unfold aheadFnN at *
      clear ih
      have m1 : Hid True := ⟨trivial⟩
      go_enter Tryz.func168, Tryz.ntmps168
      go_wp2_with fail
      go_region_held3 (fun _ => True) (trivial) (first | (go_at_call 168; clear m1; refine (ih1 _ (Below.refl _ _).drew).mono ?_; rintro e w1 ⟨v1, s1, rfl, hp1, ho1, hw1, hb1⟩; have hB1 : Below w.heap.size w w1 := (Below.refl _ _).drew.trans (hb1.mono (by simp)); obtain ⟨a1, c1, rfl, hc1, hA1⟩ := owns_atN hw1; clear ih1 hw1) | (go_at_call 168; refine (ih2 _ hB1).mono ?_; rintro e w2 ⟨v2, s2, rfl, hp2, ho2, hw2, hb2⟩; have hB2 : Below w.heap.size w w2 := hB1.trans (hb2.mono hB1.size); obtain ⟨a2, c2, rfl, hc2, hA2⟩ := owns_atN hw2; have hl1 : Hid (s1.length ≤ 400) := ⟨by have h0 := hp1.length_eq; omega⟩; have hl2 : Hid (s2.length ≤ 400) := ⟨by have h0 := hp2.length_eq; omega⟩; clear ih2 hw2) | (go_at_call 184; refine (hmg s1 s2 a1 a2 c1 c2 w2 hl1.out hl2.out hc1 hc2 (hA1.stays hb2) hA2).mono ?_; rintro e w3 ⟨v3, rfl, hO3, hb3⟩))
      have hB3 : Below w.heap.size w w3 := hB2.trans (hb3.mono hB2.size)
      have HF : Hid (w3.ownsRow w.heap.size 120 4 v3 (mrgN s1 s2).length (flatG NodG.cells (mrgN s1 s2))) := ⟨owns_lower hO3.1 hB2.size⟩
      clear hmg hO3
      go_wp2
      go_ret
      refine ⟨v3, mrgN s1 s2, rfl, ?_, mrgN_ord ho1 ho2, HF.out, hB3⟩
      refine (mrgN_perm s1 s2).trans ((hp1.append hp2).trans ?_)
      rw [List.take_append_drop]
end Go.Proofs.YtfkgmkcndchkjaaGreatDoor.OpR
namespace Go.Proofs.YtfkgmkcndchkjaaGreatDoor.OpR
open Go.ChangeShapes Go.WideShapes Go.ChangeAt Go.RowKit
set_option linter.unusedVariables false

theorem Box4.set2 {w c : World} {g : Nat} {n : NodG} (h : Box4 w c g n) (hg : w.heap.size ≤ g) : Box4 w (c.setCell ⟨g, 2, none⟩ (.string n.name)) g n :=
  ⟨h.below.setCell hg _, (set_block h.lies 2 (.string n.name)).trans rfl⟩
theorem Box4.set3 {w c : World} {g : Nat} {n : NodG} (h : Box4 w c g n) (hg : w.heap.size ≤ g) (ao : Option Addr) (cap : Nat) : Box4 w (c.setCell ⟨g, 3, none⟩ (.slice ao n.props.length cap)) g { n with pao := ao, pcap := cap } :=
  ⟨h.below.setCell hg _, (set_block h.lies 3 (.slice ao n.props.length cap)).trans rfl⟩
theorem new4g (W : World) (n : NodG) (T : TypeId) : ∀ j u, n.cells[j]? = some u → (W.alloc (.cells #[.int .i64 n.id, .int .i64 n.parent, .string n.name, .slice n.pao n.props.length n.pcap] T)).cell? ((⟨W.heap.size, 0, none⟩ : Addr).add j) = some u := by
  intro j u hu
  rw [Addr.add_lit, Nat.zero_add, World.cell?_alloc_at _ _ _ _ rfl]
  simpa [NodG.cells] using hu
theorem one4g (x : NodG) : ∀ u ∈ x.cells, u.oneCell' = true := by
  intro u hu
  simp only [NodG.cells, List.mem_cons, List.not_mem_nil, or_false] at hu
  rcases hu with rfl | rfl | rfl | rfl <;> rfl
theorem new4s (x : World) (g : Nat) (n : NodG) (ao : Option Addr) (cap : Nat) : ∀ j u, (NodG.cells ⟨n.id, n.parent, n.name, n.props, ao, cap⟩)[j]? = some u → ((x.setCell ⟨g, 3, none⟩ (.slice ao n.props.length cap)).alloc (.cells #[.int .i64 n.id, .int .i64 n.parent, .string n.name, .slice ao n.props.length cap] 120)).cell? ((⟨x.heap.size, 0, none⟩ : Addr).add j) = some u := by
  have := new4g (x.setCell ⟨g, 3, none⟩ (.slice ao n.props.length cap)) ⟨n.id, n.parent, n.name, n.props, ao, cap⟩ 120
  rwa [show (x.setCell ⟨g, 3, none⟩ (.slice ao n.props.length cap)).heap.size = x.heap.size by simp [World.setCell]] at this
theorem own_row {wr x : World} {n : NodG} {base k : Nat} {v : Value} {d : List NodG} (h : Box4 wr x wr.heap.size n) (hr : wr.ownsRow base 120 4 v d.length (flatG NodG.cells d)) (hk : d.length = k) (ao : Option Addr) (cap : Nat) (o : Obj) :
    ((x.setCell ⟨wr.heap.size, 3, none⟩ (.slice ao n.props.length cap)).alloc o).ownsRow base 120 4 v k (flatG NodG.cells d) := by
  rw [← hk]
  exact (owns_stays2 hr (h.set3 (Nat.le_refl _) ao cap).below).alloc o
theorem own_props {wr x1 x2 : World} {n : NodG} {ao : Option Addr} {cap : Nat} (h : x2.ownsRow (x1.setCell ⟨wr.heap.size, 2, none⟩ (.string n.name)).heap.size 165 2 (.slice ao n.props.length cap) n.props.length (flatG PropV.cells n.props)) (hs : wr.heap.size < x1.heap.size) :
    (x2.setCell ⟨wr.heap.size, 3, none⟩ (.slice ao n.props.length cap)).ownsRow wr.heap.size 165 2 (.slice ao n.props.length cap) n.props.length (flatG PropV.cells n.props) := by
  have e : (x1.setCell ⟨wr.heap.size, 2, none⟩ (.string n.name)).heap.size = x1.heap.size := by simp [World.setCell]
  rw [e] at h
  exact owns_lower (ownsRow_setCell_below h hs _) (Nat.le_of_lt hs)
set_option maxRecDepth 100000 in
set_option maxHeartbeats 1000000 in
theorem ownNodes_any (l : List NodG) (ao : Option Addr) (cap : Nat) (w : World) (hl : l.length ≤ 1048576) (hA : NodesAt w ao l) (hS : ∀ n ∈ l, Sized1 1048576 n) :
    Calls Tryz.prog 167 #[.slice ao l.length cap] w fun e w' => ∃ v d, e = .returned v ∧ TreeOwn w' w.heap.size v d ∧ d.map NodG.bare = l.map NodG.bare ∧ Below w.heap.size w w' := by
  have HA : Hid (NodesAt w ao l) := ⟨hA⟩
  have HS := hide hS
  clear hA hS
  obtain ⟨i0, hi, hz0, hz1, hz2⟩ := info_parts infoNode
  go_enter Tryz.func167, Tryz.ntmps167
  go_wp2
  go_loopw [3, 8] (fun v i wr => ∃ d : List NodG, d.length ≤ l.length ∧ i = .int .i64 d.length ∧ Owned wr w.heap.size v l d ∧ Below w.heap.size w wr) (fun _ i _ => l.length - (intOf i).toNat)
  case atStart => exact ⟨[], by simp, rfl, ⟨⟨World.ownsRow_nil _ _ _ _, by simp, by simp, by simp⟩, by simp⟩, Below.refl _ _⟩
  case round =>
    obtain ⟨d, hk, rfl, hO, hb⟩ := hrel
    have HO := hide hO
    have HB := hide hb
    have hbs := hb.size
    obtain ⟨k, hkd⟩ : ∃ k, d.length = k := ⟨_, rfl⟩
    have HK := hide hkd
    simp only [hkd] at hk ⊢
    clear hkd hO
    by_cases h : k < l.length
    · obtain ⟨b, off, rfl, hlt, ho, hp⟩ := HA.out k h
      obtain ⟨c0, c1, c2, c3⟩ := ho.block (w' := wr) (hb.block b hlt)
      have hsz := HS.out _ (List.getElem_mem h)
      have HP := hide (hp.stays hb)
      obtain ⟨n, hn⟩ : ∃ n, l[k] = n := ⟨_, rfl⟩
      rw [hn] at c0 c1 c2 c3 hsz HP
      have HE := hide hn
      obtain ⟨hs1, hs2, hs3⟩ := hsz
      have hC0 := fun W => NumR.clone_any n.name W (by omega)
      have hPr := fun W (hW : Below wr.heap.size wr W) => ownProps_any n.props n.pao n.pcap W hs2 (HP.out.stays hW) hs3
      have hi0 : (0 : Int) ≤ (k : Int) := by omega
      have hi1 : (k : Int) < (l.length : Int) := by omega
      have H0 := hide (Box4.start wr n)
      clear ho hp hn hs1 hs2 hs3
      go_wp2_with (first | (go_at_call 115; refine (hC0 _).mono ?_; rintro e x1 ⟨rfl, hx1⟩; have hb1 := H0.out.step hx1; have H1 := hide hb1; obtain ⟨k0, k1, k2, k3, f0, f1, f2, f3⟩ := cells4 hb1.lies; clear hC0 c0 c1 c2 c3 hb1 hx1) | (go_at_call 183; refine (hPr _ (H1.out.set2 (Nat.le_refl _)).below).mono ?_; rintro e x2 ⟨v2, rfl, ho2, hx2⟩; obtain ⟨ao2, cp2, rfl, _, _⟩ := owns_atP ho2; have hb2 := (H1.out.set2 (Nat.le_refl _)).step hx2; have H2 := hide hb2; have HO2 := hide ho2; clear k0 k1 k2 k3 f0 f1 f2 f3; obtain ⟨k0, k1, k2, k3, f0, f1, f2, f3⟩ := cells4 hb2.lies; clear hPr ho2 hb2 hx2; have HOW := hide (own_row H2.out HO.out.own.row HK.out ao2 cp2 (.cells #[.int .i64 n.id, .int .i64 n.parent, .string n.name, .slice ao2 n.props.length cp2] 120)); have HNW := hide (new4s x2 wr.heap.size n ao2 cp2); have hY2 := H2.out.below.size) | (at_builtin; refine wpList_append_lies _ rfl _ _ 70 rfl w.heap.size 120 i0 _ 4 56 Tryz.underlying70 hi hz0 hz1 hz2 rfl (by decide) _ k (flatG NodG.cells d) rfl HOW.out ⟨x2.heap.size, 0, none⟩ 1 1 (NodG.cells ⟨n.id, n.parent, n.name, n.props, ao2, cp2⟩) rfl rfl HNW.out (one4g _) (by omega) (by unfold maxLen; omega) (by omega) (by simp [World.setCell]; omega) (x2.heap.size + 1) (by simp [World.setCell]) ?_; intro gn cn y1 hown hgrow hatn hltn))
      have hB4 : Below w.heap.size w y1 := (((HB.out.trans (H2.out.below.mono hbs)).setCell (p := ⟨wr.heap.size, 3, none⟩) hbs _).alloc (by simp [World.setCell]; omega) _).grown hgrow (by simp [World.setCell]; omega) (fun j hj => (HO.out.own.row.lt j hj).1)
      have hTO : TreeOwn y1 w.heap.size (.slice (some ⟨gn, 0, none⟩) (k + 1) cn) (d ++ [⟨n.id, n.parent, n.name, n.props, ao2, cp2⟩]) := by
        refine HO.out.own.snoc (n := ⟨n.id, n.parent, n.name, n.props, ao2, cp2⟩) (H2.out.set3 (Nat.le_refl _) ao2 cp2).below (own_props (n := n) HO2.out (Array.getElem?_eq_some_iff.1 H1.out.lies).1) hbs hgrow ?_ ?_
        · rcases hatn with e | e
          · exact .inl e.symm
          · right
            simp [Value.ownBlock, World.setCell, e]
        · rw [HK.out, flatG_app]
          simpa [flatG] using hown
      have HTO := hide hTO
      clear hown hgrow hatn hTO
      go_wp2
      go_roundw
      case rel =>
        refine ⟨d ++ [⟨n.id, n.parent, n.name, n.props, ao2, cp2⟩], by simp [HK.out]; omega, by simp [HK.out], ⟨HTO.out, ?_⟩, hB4⟩
        have hd : d.length < l.length := by rw [HK.out]; exact h
        rw [List.length_append, List.map_append, HO.out.bare]
        simp only [List.length_cons, List.length_nil, Nat.zero_add, List.map_cons, List.map_nil, List.map_take]
        rw [List.take_add_one, List.getElem?_eq_getElem (by simpa using hd)]
        have e : (List.map NodG.bare l)[d.length]'(by simpa using hd) = NodG.bare ⟨n.id, n.parent, n.name, n.props, ao2, cp2⟩ := by
          rw [List.getElem_map]
          simp only [HK.out, HE.out]
          rfl
        rw [e]
        rfl
      case measure => simp [intOf]; omega
    · obtain rfl : k = l.length := by omega
      have HF := hide HO.out.own
      go_wp2
      go_ret
      exact ⟨_, d, rfl, HF.out, by have := HO.out.bare; rwa [HK.out, List.take_length] at this, hb⟩
end Go.Proofs.YtfkgmkcndchkjaaGreatDoor.OpR
namespace Go.Proofs.YtfkgmkcndchkjaaGreatDoor.OpR
open Go.ChangeShapes Go.WideShapes Go.ChangeAt Go.RowKit
set_option linter.unusedVariables false

theorem rises_pw {l : List NodG} (h : RisesN l) : l.Pairwise fun a b => a.id < b.id := by
  rw [List.pairwise_iff_getElem]
  exact fun i j hi hj hij => rises_lt h i j hij hj
theorem sorted_is : ∀ {s l : List NodG}, s.Perm l → OrdN s → (l.Pairwise fun a b => a.id < b.id) → s = l
  | [], l, hp, _, _ => (List.nil_perm.1 hp).symm
  | x :: s, [], hp, _, _ => absurd hp.length_eq (by simp)
  | x :: s, y :: l, hp, ho, hl => by
    have ho' := List.pairwise_cons.1 ho
    have hl' := List.pairwise_cons.1 hl
    have hxy : x = y := by
      rcases List.mem_cons.1 (hp.mem_iff.1 (List.mem_cons_self (a := x) (l := s))) with e | hx
      · exact e
      · rcases List.mem_cons.1 (hp.mem_iff.2 (List.mem_cons_self (a := y) (l := l))) with e | hy
        · exact e.symm
        · have h1 := hl'.1 x hx
          have h2 := (leN_iff x y).1 (ho'.1 y hy)
          omega
    subst hxy
    rw [sorted_is (List.Perm.cons_inv hp) ho'.2 hl'.2]
theorem kvOf_snd (l : List NodG) : (kvOf l).map Prod.snd = l := by simp [kvOf, Function.comp_def]
theorem kvOf_fst (l : List NodG) : (kvOf l).map Prod.fst = l.map NodG.id := by simp [kvOf, Function.comp_def]
theorem kvOf_nodup {l : List NodG} (h : RisesN l) : ((kvOf l).map Prod.fst).Nodup := by
  rw [kvOf_fst]
  exact List.Pairwise.map _ (fun a b hab => by omega) (rises_pw h)
theorem perm_of {l xs : List NodG} (h : AllK (kvOf l) xs) (hr : RisesN l) : xs.Perm l := by
  have := h.perm (kvOf_nodup hr)
  rwa [kvOf_snd] at this
set_option maxRecDepth 100000 in
set_option maxHeartbeats 1000000 in
theorem treeM_any (l : List NodG) (B : Nat) (w : World) (hl : l.length ≤ 400) (hr : RisesN l) (hS : ∀ n ∈ l, Sized1 1048576 n) (hP : ∀ n ∈ l, PropsAt w n.pao n.props) (hM : MapAt w B (kvOf l)) :
    Calls Tryz.prog 143 #[.map (some B)] w fun e w' => ∃ v d, e = .returned (.agg #[v]) ∧ TreeOwn w' w.heap.size v d ∧ d.map NodG.bare = l.map NodG.bare ∧ Below w.heap.size w w' := by
  have HM := hide hM
  have HR := hide hr
  have HS := hide hS
  have HP := hide hP
  have H1 := hide (Box1.start w (.slice none 0 0) 72)
  clear hM hr hS hP
  go_enter Tryz.func143, Tryz.ntmps143
  go_wp2_with (first | (go_at_call 166; refine (values_any B _).mono ?_; rintro e w1 ⟨rfl, hv1, hb1⟩; have H2 := hide (H1.out.step hb1); have hv1' : w1.heap[w.heap.size + 1]? = some (.cells #[.map (some B)] 138 (0, 0)) := (by simpa using hv1); have HV := hide hv1'; have HM1 := hide (HM.out.stays H2.out.below); clear hv1 hv1' hb1) | (go_at_call 165; refine (collect_any _ B (kvOf l) w1 (by rw [kvOf_len]; omega) (Array.getElem?_eq_some_iff.1 HV.out).1 (cells1 HV.out).1 HM1.out).mono ?_; rintro e w2 ⟨v2, xs, rfl, hall, ho2, hb2⟩; have hpm : xs.Perm l := perm_of hall HR.out; have HPM := hide hpm; have H3 := hide (H2.out.step hb2); obtain ⟨a2, c2, rfl, hc2, hA2⟩ := owns_atN ho2; have HA2 := hide hA2; have hxl : xs.length ≤ 400 := (by rw [hpm.length_eq]; exact hl); clear ho2 hb2 hall hpm hA2) | (go_at_call 168; refine (sortedN_any xs.length xs a2 c2 w2 (Nat.le_refl _) hxl hc2 HA2.out).mono ?_; rintro e w3 ⟨v3, s3, rfl, hp3, ho3, hw3, hb3⟩; have hsl : s3 = l := sorted_is (hp3.trans HPM.out) ho3 (rises_pw HR.out); subst hsl; have H4 := hide (H3.out.step hb3); obtain ⟨a3, c3, rfl, hc3, hA3⟩ := owns_atN hw3; have HA3 := hide hA3; clear hp3 ho3 hw3 hb3 hA3) | (go_at_call 167; refine (ownNodes_any s3 a3 c3 w3 (by omega) (HA3.out.nodes fun n hn => (HP.out n hn).stays H4.out.below) HS.out).mono ?_; rintro e w4 ⟨v4, d4, rfl, ht4, hd4, hb4⟩; obtain ⟨a4, c4, rfl, _, _⟩ := owns_atN ht4.row; have H5 := hide (H4.out.step hb4); have HT4 := hide ht4; have HD4 := hide hd4; have hc := H5.out.cell; have hf := (cells1 H5.out.lies).2; clear ht4 hd4))
  have hw3 : w.heap.size < w3.heap.size := (Array.getElem?_eq_some_iff.1 H4.out.lies).1
  refine bodyPost_ret (v := .agg #[.slice a4 d4.length c4]) (by simp [results, Tryz.results143, go_sem, hc]) rfl ⟨_, d4, rfl, ?_, HD4.out, H5.out.below.setCell (p := ⟨w.heap.size, 0, none⟩) (Nat.le_refl _) _⟩
  refine (HT4.out.moved (fun g hg => ?_)).lower (Nat.le_of_lt hw3)
  exact Below.heap_setCell _ _ _ _ (by simp; omega)
end Go.Proofs.YtfkgmkcndchkjaaGreatDoor.OpR
namespace Go.Proofs.YtfkgmkcndchkjaaGreatDoor.OpR
open Go.ChangeShapes Go.WideShapes Go.ChangeAt Go.RowKit
set_option linter.unusedVariables false

theorem ab_stable {f : Int → Option Int} (h0 : f 0 = none) (h1 : f 1 = none) (y : Int) : ∀ {k : Nat} {x : Int}, endsF f k x = true → abF f y (k + 1) x = abF f y k x := by
  intro k
  induction k with
  | zero => intro x h; simp [endsF] at h
  | succ k ih =>
    intro x h
    obtain ⟨j, e, hc⟩ := ends_cases h
    obtain rfl := Nat.succ.inj e
    rcases hc with hx | ⟨_, _, z, hz, hk⟩
    · have hn : f x = none := by rcases hx with rfl | rfl <;> assumption
      simp [abF, hn]
    · show (if x = y then true else match f x with | none => false | some z => abF f y (k + 1) z) = (if x = y then true else match f x with | none => false | some z => abF f y k z)
      rw [hz]
      simp only
      rw [ih hk]
theorem ab_place {f : Int → Option Int} (h0 : f 0 = none) (h1 : f 1 = none) {y : Int} : ∀ {k j : Nat} {x : Int}, endsF f j x = true → abF f y k x = true → y = 0 ∨ y = 1 ∨ ∃ z, f y = some z := by
  intro k
  induction k with
  | zero => intro j x _ h; simp [abF] at h
  | succ k ih =>
    intro j x he h
    obtain ⟨i, _, hc⟩ := ends_cases he
    by_cases hxy : x = y
    · subst hxy
      rcases hc with (hx | hx) | ⟨_, _, z, hz, _⟩
      · exact .inl hx
      · exact .inr (.inl hx)
      · exact .inr (.inr ⟨z, hz⟩)
    · rcases hc with hx | ⟨_, _, z, hz, hk⟩
      · have hn : f x = none := by rcases hx with rfl | rfl <;> assumption
        simp [abF, hxy, hn] at h
      · exact ih hk (by simpa [abF, hxy, hz] using h)
/-- How many steps the way up has. -/
def stepsF (f : Int → Option Int) : Nat → Int → Nat
  | 0, _ => 0
  | k + 1, x => if x = 0 ∨ x = 1 then 0 else match f x with
    | none => 0
    | some y => stepsF f k y + 1
theorem steps_stable {f : Int → Option Int} : ∀ {k : Nat} {x : Int}, endsF f k x = true → stepsF f (k + 1) x = stepsF f k x := by
  intro k
  induction k with
  | zero => intro x h; simp [endsF] at h
  | succ k ih =>
    intro x h
    obtain ⟨j, e, hc⟩ := ends_cases h
    obtain rfl := Nat.succ.inj e
    rcases hc with hx | ⟨hx0, hx1, z, hz, hk⟩
    · simp [stepsF, hx]
    · show (if x = 0 ∨ x = 1 then 0 else match f x with | none => 0 | some y => stepsF f (k + 1) y + 1) = (if x = 0 ∨ x = 1 then 0 else match f x with | none => 0 | some y => stepsF f k y + 1)
      rw [hz]
      simp only
      rw [ih hk]
def stepsV (f : Int → Option Int) (N : Nat) (v : Value) : Nat := stepsF f N (intOf v)
def placeB (l : List NodG) (x : Int) : Bool := decide (x = 0) || (decide (x = 1) || (nodOf l x).isSome)
theorem tree_par {l : List NodG} (h : TreeR l) : par l 0 = none ∧ par l 1 = none := by
  have h2 : ∀ n ∈ l, isIn n.id 2 1000000 = true := fun n hn => by have := h.2.2 n hn; unfold nodOk at this; rw [Bool.and_eq_true] at this; exact this.1
  exact ⟨by unfold par; rw [no_low h2 (x := 0) (by omega)]; rfl, by unfold par; rw [no_low h2 (x := 1) (by omega)]; rfl⟩
theorem tree_ends {l : List NodG} (h : TreeR l) {x : Int} {n : NodG} (hn : nodOf l x = some n) : endsF (par l) (l.length + 1) x = true := by
  obtain ⟨hm, rfl⟩ := nodOf_some hn
  have := h.2.2 n hm
  unfold nodOk at this
  rw [Bool.and_eq_true, Bool.and_eq_true, Bool.and_eq_true] at this
  exact this.2.2.2
def aboveB (l : List NodG) (x y : Int) : Bool := treeRight l && ((nodOf l x).isSome && abF (par l) y (l.length + 1) x)

set_option maxRecDepth 100000 in
set_option maxHeartbeats 400000 in
theorem sPlace_any (l : List NodG) (ao : Option Addr) (cap : Nat) (x : Int) (w : World) (hl : l.length ≤ 1048576) (hA : NodesAt w ao l) :
    Calls Tryz.prog 71 #[.agg #[.slice ao l.length cap], .int .i64 x] w fun e w' => e = .returned (.bool (placeB l x)) ∧ Below w.heap.size w w' := by
  have hat := fun x W (hW : Below w.heap.size w W) => sAt_any l ao cap x W (by unfold maxLen; omega) (hA.stays hW)
  have HT := hide hat
  have H1 := hide (Box1.start w (.slice ao l.length cap) 72)
  clear hA hat
  by_cases h0 : x = 0
  · have HF : Hid (placeB l x = true) := ⟨by simp [placeB, h0]⟩
    have b0 : (x == 0) = true := beq_iff_eq.2 h0
    clear h0
    go_enter Tryz.func71, Tryz.ntmps71
    go_wp2
    go_ret
    exact ⟨ret_bool (by rw [HF.out]), H1.out.below⟩
  · have b0 : (x == 0) = false := beq_eq_false_iff_ne.2 h0
    by_cases h1 : x = 1
    · have HF : Hid (placeB l x = true) := ⟨by simp [placeB, h1]⟩
      have b1 : (x == 1) = true := beq_iff_eq.2 h1
      clear h0 h1
      go_enter Tryz.func71, Tryz.ntmps71
      go_wp2
      go_ret
      exact ⟨ret_bool (by rw [HF.out]), H1.out.below⟩
    · have b1 : (x == 1) = false := beq_eq_false_iff_ne.2 h1
      rcases at_cases l x with ⟨ea, en⟩ | ⟨j, hj, ea, en, _⟩
      · have HF : Hid (placeB l x = false) := ⟨by simp [placeB, h0, h1, en]⟩
        have HEA := hide ea
        clear ea en h0 h1
        go_enter Tryz.func71, Tryz.ntmps71
        go_wp2_with (first | (go_at_call 52; refine (HT.out x _ H1.out.below).mono ?_; rintro e w1 ⟨rfl, hb1⟩; rw [HEA.out]))
        go_ret
        exact ⟨ret_bool (by rw [HF.out]), (H1.out.step hb1).below⟩
      · have HF : Hid (placeB l x = true) := ⟨by simp [placeB, en]⟩
        have HEA := hide ea
        have hj0 : (0 : Int) ≤ (j : Int) := by omega
        clear ea en h0 h1
        go_enter Tryz.func71, Tryz.ntmps71
        go_wp2_with (first | (go_at_call 52; refine (HT.out x _ H1.out.below).mono ?_; rintro e w1 ⟨rfl, hb1⟩; rw [HEA.out]))
        go_ret
        exact ⟨ret_bool (by rw [HF.out]), (H1.out.step hb1).below⟩

set_option maxRecDepth 100000 in
set_option maxHeartbeats 400000 in
theorem sUp_any (l : List NodG) (ao : Option Addr) (cap : Nat) (x y : Int) (w : World) (hl : l.length ≤ 1048576) (hA : NodesAt w ao l) (h0 : par l 0 = none) (h1 : par l 1 = none) (he : endsF (par l) (l.length + 1) x = true) :
    Calls Tryz.prog 72 #[.agg #[.slice ao l.length cap], .int .i64 x, .int .i64 y] w fun e w' => e = .returned (.bool (abF (par l) y (l.length + 1) x)) ∧ Below w.heap.size w w' := by
  have hat := fun x W (hW : Below w.heap.size w W) => sAt_any l ao cap x W (by unfold maxLen; omega) (hA.stays hW)
  have HT := hide hat
  have HA : Hid (NodesAt w ao l) := ⟨hA⟩
  have H01 := hide (And.intro h0 h1)
  have HE0 := hide he
  clear hA hat h0 h1 he
  go_enter Tryz.func72, Tryz.ntmps72
  go_wp2
  go_loopw [1] (fun z wr => ∃ (v : Int), z = .int .i64 v ∧ endsF (par l) (l.length + 1) v = true ∧ abF (par l) y (l.length + 1) x = abF (par l) y (l.length + 1) v ∧ Box1 w wr w.heap.size (.slice ao l.length cap) 72) (fun z _ => stepsV (par l) (l.length + 1) z)
  case atStart => exact ⟨x, rfl, HE0.out, rfl, Box1.start w _ _⟩
  case round =>
    obtain ⟨v, rfl, he, hab, hbx⟩ := hrel
    have HE := hide he
    have HAb := hide hab
    have HB := hide hbx
    have hc := hbx.cell
    clear he hab hbx
    by_cases hvy : v = y
    · have HF : Hid (abF (par l) y (l.length + 1) x = true) := ⟨by rw [HAb.out]; simp [abF, hvy]⟩
      have b0 : (v == y) = true := beq_iff_eq.2 hvy
      clear hvy
      go_wp2
      go_ret
      exact ⟨ret_bool (by rw [HF.out]), HB.out.below⟩
    · have b0 : (v == y) = false := beq_eq_false_iff_ne.2 hvy
      rcases at_cases l v with ⟨ea, en⟩ | ⟨j, hj, ea, en, _⟩
      · have HF : Hid (abF (par l) y (l.length + 1) x = false) := ⟨by rw [HAb.out]; simp [abF, hvy, par, en]⟩
        have HEA := hide ea
        clear ea en hvy
        go_wp2_with (first | (go_at_call 52; refine (HT.out v wr HB.out.below).mono ?_; rintro e w1 ⟨rfl, hb1⟩; rw [HEA.out]))
        go_ret
        exact ⟨ret_bool (by rw [HF.out]), (HB.out.step hb1).below⟩
      · have HEA := hide ea
        have hpv : par l v = some l[j].parent := by unfold par; rw [en]; rfl
        have HN : Hid (endsF (par l) l.length l[j].parent = true ∧ v ≠ 0 ∧ v ≠ 1) := ⟨by
          obtain ⟨i, e, hx | ⟨e0, e1, z, hz, hk⟩⟩ := ends_cases HE.out
          · rcases hx with rfl | rfl
            · rw [H01.out.1] at hpv; cases hpv
            · rw [H01.out.2] at hpv; cases hpv
          · obtain rfl := Nat.succ.inj e
            rw [hpv] at hz
            cases hz
            exact ⟨hk, e0, e1⟩⟩
        have HF : Hid (abF (par l) y (l.length + 1) x = abF (par l) y (l.length + 1) l[j].parent) := ⟨by
          rw [HAb.out, ab_stable H01.out.1 H01.out.2 y HN.out.1]
          simp [abF, hvy, hpv]⟩
        have HM : Hid (stepsV (par l) (l.length + 1) (.int .i64 l[j].parent) < stepsV (par l) (l.length + 1) (.int .i64 v)) := ⟨by
          show stepsF (par l) (l.length + 1) l[j].parent < stepsF (par l) (l.length + 1) v
          rw [steps_stable HN.out.1]
          have e : stepsF (par l) (l.length + 1) v = stepsF (par l) l.length l[j].parent + 1 := by simp [stepsF, HN.out.2.1, HN.out.2.2, hpv]
          omega⟩
        obtain ⟨b, off, rfl, hlt, ho, _⟩ := HA.out j hj
        have hj0 : (0 : Int) ≤ (j : Int) := by omega
        have hj1 : (j : Int) < (l.length : Int) := by omega
        have HO := hide ho
        clear ea en hvy ho hpv
        go_wp2_with (first | (go_at_call 52; refine (HT.out v wr HB.out.below).mono ?_; rintro e w1 ⟨rfl, hb1⟩; rw [HEA.out]; have hB1 := HB.out.step hb1; have hc1 := hB1.cell; obtain ⟨c0, c1, c2, c3⟩ := HO.out.block (hB1.below.block b hlt); clear hc))
        go_roundw
        case rel => exact ⟨l[j].parent, rfl, ends_mono (Nat.le_succ _) HN.out.1, HF.out, hB1⟩
        case measure => exact HM.out

end Go.Proofs.YtfkgmkcndchkjaaGreatDoor.OpR
namespace Go.Proofs.YtfkgmkcndchkjaaGreatDoor.OpR
set_option linter.unusedVariables false

/-- Keys in order. -/
def RiseK (m : List (Int × NodG)) : Prop := m.Pairwise fun a b => a.1 < b.1
theorem riseK_of {l : List NodG} (h : RisesN l) : RiseK (kvOf l) := by
  unfold RiseK kvOf
  rw [List.pairwise_map]
  exact rises_pw h
theorem kvAt_none {m : List (Int × NodG)} {x : Int} (h : kvAt m x = none) : ∀ p ∈ m, p.1 ≠ x := by
  unfold kvAt at h
  rw [Option.map_eq_none_iff, List.find?_eq_none] at h
  intro p hp
  simpa using h p hp
theorem kvDel_self {m : List (Int × NodG)} {x : Int} (h : ∀ p ∈ m, p.1 ≠ x) : kvDel m x = m := List.filter_eq_self.2 fun p hp => by simpa using h p hp
theorem kvDel_ins {x : Int} {n : NodG} : ∀ {m : List (Int × NodG)}, (∀ p ∈ m, p.1 ≠ x) → kvDel (kvIns x n m) x = m
  | [], _ => by simp [kvIns, kvDel]
  | q :: r, h => by
    unfold kvIns
    split
    · have : kvDel ((x, n) :: q :: r) x = kvDel (q :: r) x := by simp [kvDel]
      rw [this]; exact kvDel_self h
    · have hq := h q (by simp)
      have : kvDel (q :: kvIns x n r) x = q :: kvDel (kvIns x n r) x := by simp [kvDel, hq]
      rw [this, kvDel_ins (fun p hp => h p (by simp [hp]))]
theorem kvDel_no (m : List (Int × NodG)) (x : Int) : ∀ p ∈ kvDel m x, p.1 ≠ x := fun p hp => by
  have := (List.mem_filter.1 hp).2
  simpa using this
theorem kvDel_put (m : List (Int × NodG)) (x : Int) (n : NodG) : kvDel (kvPut m x n) x = kvDel m x := kvDel_ins (kvDel_no m x)
theorem back_none {m : List (Int × NodG)} {x : Int} {n : NodG} (h : kvAt m x = none) : kvDel (kvPut m x n) x = m := by
  rw [kvDel_put, kvDel_self (kvAt_none h)]
/-- A node that is there, put there. -/
theorem ins_del {x : Int} {n : NodG} : ∀ {m : List (Int × NodG)}, RiseK m → kvAt m x = some n → kvIns x n (kvDel m x) = m
  | [], _, h => by simp [kvAt] at h
  | q :: r, hr, h => by
    have hr' := List.pairwise_cons.1 hr
    by_cases hq : q.1 = x
    · have hn : q.2 = n := by simpa [kvAt, hq] using h
      have hd : kvDel (q :: r) x = r := by
        have : kvDel (q :: r) x = kvDel r x := by simp [kvDel, hq]
        rw [this, kvDel_self fun p hp => by have := hr'.1 p hp; omega]
      rw [hd]
      have hqe : q = (x, n) := Prod.ext hq hn
      cases r with
      | nil => rw [hqe]; rfl
      | cons y s =>
        have := hr'.1 y (by simp)
        rw [kvIns, if_pos (by omega), hqe]
    · have h' : kvAt r x = some n := by simpa [kvAt, hq] using h
      have hd : kvDel (q :: r) x = q :: kvDel r x := by simp [kvDel, hq]
      have hlt : q.1 < x := by
        unfold kvAt at h'
        obtain ⟨p, hp, _⟩ := Option.map_eq_some_iff.1 h'
        have h1 := hr'.1 p (List.mem_of_find?_eq_some hp)
        have h2 : p.1 = x := by simpa using List.find?_some hp
        omega
      rw [hd, kvIns, if_neg (by omega), ins_del hr'.2 h']
theorem back_some {m : List (Int × NodG)} {x : Int} {n n' : NodG} (hr : RiseK m) (h : kvAt m x = some n) : kvPut (kvPut m x n') x n = m := by
  rw [kvPut, kvDel_put, ins_del hr h]
theorem kvAt_ins_other {x y : Int} {n : NodG} (hne : y ≠ x) : ∀ (m : List (Int × NodG)), kvAt (kvIns x n m) y = kvAt m y
  | [] => by simp [kvIns, kvAt, Ne.symm hne]
  | q :: r => by
    unfold kvIns
    split
    · simp [kvAt, Ne.symm hne]
    · have ih := kvAt_ins_other (n := n) hne r
      unfold kvAt at *
      rw [List.find?_cons, List.find?_cons]
      cases decide (q.1 = y)
      · exact ih
      · rfl
theorem kvAt_ins_same {x : Int} {n : NodG} : ∀ {m : List (Int × NodG)}, (∀ p ∈ m, p.1 ≠ x) → kvAt (kvIns x n m) x = some n
  | [], _ => by simp [kvIns, kvAt]
  | q :: r, h => by
    unfold kvIns
    split
    · simp [kvAt]
    · have ih := kvAt_ins_same (n := n) (m := r) (fun p hp => h p (by simp [hp]))
      have hq := h q (by simp)
      unfold kvAt at *
      rw [List.find?_cons]
      simp only [hq, decide_false]
      exact ih
theorem kvAt_del {m : List (Int × NodG)} {x y : Int} (hne : y ≠ x) : kvAt (kvDel m x) y = kvAt m y := by
  unfold kvAt kvDel
  rw [List.find?_filter]
  congr 1
  congr 1
  funext p
  by_cases h : p.1 = y
  · simp [h, hne]
  · simp [h]
theorem kvAt_put_same (m : List (Int × NodG)) (x : Int) (n : NodG) : kvAt (kvPut m x n) x = some n := kvAt_ins_same (kvDel_no m x)
theorem kvAt_put_other (m : List (Int × NodG)) {x y : Int} (n : NodG) (hne : y ≠ x) : kvAt (kvPut m x n) y = kvAt m y := by
  unfold kvPut
  rw [kvAt_ins_other hne, kvAt_del hne]
theorem kvIns_len (x : Int) (n : NodG) : ∀ (m : List (Int × NodG)), (kvIns x n m).length = m.length + 1
  | [] => rfl
  | q :: r => by
    unfold kvIns
    split
    · rfl
    · rw [List.length_cons, kvIns_len x n r, List.length_cons]
theorem kvPut_len_none {m : List (Int × NodG)} {x : Int} {n : NodG} (h : kvAt m x = none) : (kvPut m x n).length = m.length + 1 := by
  unfold kvPut
  rw [kvIns_len, kvDel_self (kvAt_none h)]
theorem kvPut_len_some {m : List (Int × NodG)} {x : Int} {n n' : NodG} (hr : RiseK m) (h : kvAt m x = some n) : (kvPut m x n').length = m.length := by
  have := congrArg List.length (ins_del hr h)
  rw [kvIns_len] at this
  unfold kvPut
  rw [kvIns_len]
  exact this
theorem kvIns_mem {x : Int} {n : NodG} {p : Int × NodG} : ∀ {m : List (Int × NodG)}, p ∈ kvIns x n m → p = (x, n) ∨ p ∈ m
  | [], h => by simp [kvIns] at h; exact .inl h
  | q :: r, h => by
    unfold kvIns at h
    split at h
    · rcases List.mem_cons.1 h with h | h
      · exact .inl h
      · exact .inr h
    · rcases List.mem_cons.1 h with h | h
      · exact .inr (by simp [h])
      · exact (kvIns_mem h).imp id (fun h => by simp [h])
theorem kvPut_mem {m : List (Int × NodG)} {x : Int} {n : NodG} {p : Int × NodG} (h : p ∈ kvPut m x n) : p = (x, n) ∨ p ∈ m :=
  (kvIns_mem h).imp id (fun h => (List.mem_filter.1 h).1)
theorem kvIns_rise {x : Int} {n : NodG} : ∀ {m : List (Int × NodG)}, RiseK m → (∀ p ∈ m, p.1 ≠ x) → RiseK (kvIns x n m)
  | [], _, _ => by simp [kvIns, RiseK]
  | q :: r, hr, h => by
    have hr' := List.pairwise_cons.1 hr
    have hq := h q (by simp)
    unfold kvIns
    split
    · rename_i hx
      exact List.pairwise_cons.2 ⟨fun p hp => by
        rcases List.mem_cons.1 hp with rfl | hp
        · exact hx
        · have := hr'.1 p hp; omega, hr⟩
    · refine List.pairwise_cons.2 ⟨fun p hp => ?_, kvIns_rise hr'.2 (fun p hp => h p (by simp [hp]))⟩
      rcases kvIns_mem hp with rfl | hp
      · show q.1 < x; omega
      · exact hr'.1 p hp
theorem kvPut_rise {m : List (Int × NodG)} (hr : RiseK m) (x : Int) (n : NodG) : RiseK (kvPut m x n) :=
  kvIns_rise (List.Pairwise.sublist (List.filter_sublist) hr) (kvDel_no m x)
/-- A node put among nodes: in its place, in the place of one of its number. -/
def putL (l : List NodG) (n : NodG) : List NodG := (kvPut (kvOf l) n.id n).map Prod.snd
theorem kvOf_put (l : List NodG) (n : NodG) : kvPut (kvOf l) n.id n = kvOf (putL l n) := by
  have hk : ∀ p ∈ kvPut (kvOf l) n.id n, p = (p.2.id, p.2) := fun p hp => by
    rcases kvPut_mem hp with rfl | hp
    · rfl
    · obtain ⟨m, _, rfl⟩ := List.mem_map.1 hp
      rfl
  unfold putL kvOf
  rw [List.map_map]
  conv => lhs; rw [← List.map_id (kvPut (List.map (fun n => (n.id, n)) l) n.id n)]
  exact List.map_congr_left fun p hp => hk p hp
theorem putL_rise {l : List NodG} (hr : RisesN l) (n : NodG) : RisesN (putL l n) := by
  have h := kvPut_rise (riseK_of hr) n.id n
  rw [kvOf_put] at h
  unfold RiseK kvOf at h
  rw [List.pairwise_map] at h
  exact fun i hi => List.pairwise_iff_getElem.1 h i (i + 1) (by omega) hi (by omega)
theorem putL_mem {l : List NodG} {n x : NodG} (h : x ∈ putL l n) : x = n ∨ x ∈ l := by
  obtain ⟨p, hp, rfl⟩ := List.mem_map.1 h
  rcases kvPut_mem hp with rfl | hp
  · exact .inl rfl
  · obtain ⟨m, hm, rfl⟩ := List.mem_map.1 hp
    exact .inr hm
theorem putL_len (l : List NodG) (n : NodG) : (putL l n).length = (kvPut (kvOf l) n.id n).length := by simp [putL]
theorem nodOf_put_same (l : List NodG) (n : NodG) : nodOf (putL l n) n.id = some n := by rw [← kvAt_of, ← kvOf_put, kvAt_put_same]
theorem nodOf_put_other (l : List NodG) (n : NodG) {y : Int} (h : y ≠ n.id) : nodOf (putL l n) y = nodOf l y := by rw [← kvAt_of, ← kvOf_put, kvAt_put_other _ _ h, kvAt_of]
theorem putL_len_none {l : List NodG} {n : NodG} (h : nodOf l n.id = none) : (putL l n).length = l.length + 1 := by
  rw [putL_len, kvPut_len_none (by rw [kvAt_of]; exact h), kvOf_len]
theorem putL_len_some {l : List NodG} (hr : RisesN l) {n m : NodG} (h : nodOf l n.id = some m) : (putL l n).length = l.length := by
  rw [putL_len, kvPut_len_some (riseK_of hr) (n := m) (by rw [kvAt_of]; exact h), kvOf_len]

/-- From a node that is put below p: is 0 or 1 come to? -/
theorem put_ends {l : List NodG} (ht : TreeR l) {n : NodG} (hn : 2 ≤ n.id) : endsF (par (putL l n)) ((putL l n).length + 1) n.id = (placeB l n.parent && (!decide (n.parent = n.id) && !abF (par l) n.id (l.length + 1) n.parent)) := by
  obtain ⟨p0, p1⟩ := tree_par ht
  have hx0 : n.id ≠ 0 := by omega
  have hx1 : n.id ≠ 1 := by omega
  have hgx : par (putL l n) n.id = some n.parent := by unfold par; rw [nodOf_put_same]; rfl
  have hfg : ∀ z, z ≠ n.id → par l z = par (putL l n) z := fun z hz => by unfold par; rw [nodOf_put_other l n hz]
  by_cases hpx : n.parent = n.id
  · rw [moved_loop hx0 hx1 p0 p1 hfg hgx (k := 1) (by simp [abF, hpx])]
    simp [hpx]
  · have hdom : ∀ z y, par (putL l n) z = some y → z ∈ (putL l n).map NodG.id := fun z y hz => by
      unfold par at hz
      obtain ⟨m, hm, _⟩ := Option.map_eq_some_iff.1 hz
      obtain ⟨h1, h2⟩ := nodOf_some hm
      exact List.mem_map.2 ⟨m, h1, h2⟩
    have hg0 : par (putL l n) 0 = none := by rw [← hfg 0 (Ne.symm hx0)]; exact p0
    have hg1 : par (putL l n) 1 = none := by rw [← hfg 1 (Ne.symm hx1)]; exact p1
    have short : ∀ {k x}, endsF (par (putL l n)) k x = true → endsF (par (putL l n)) ((putL l n).length + 1) x = true := fun h =>
      ends_short (putL l n).length (par (putL l n)) ((putL l n).map NodG.id) (by simp) hdom hg0 hg1 h
    by_cases hlow : n.parent = 0 ∨ n.parent = 1
    · have hab : abF (par l) n.id (l.length + 1) n.parent = false := by
        have hn' : par l n.parent = none := by rcases hlow with e | e <;> rw [e] <;> assumption
        simp [abF, hpx, hn']
      rw [hab, short (k := 2) (by rw [ends_step hx0 hx1 hgx]; exact ends_low hlow)]
      rcases hlow with e | e <;> simp [placeB, e, Ne.symm hx0, Ne.symm hx1]
    · have hq0 : n.parent ≠ 0 := fun e => hlow (.inl e)
      have hq1 : n.parent ≠ 1 := fun e => hlow (.inr e)
      cases hp : nodOf l n.parent with
      | none =>
        have hgp : par (putL l n) n.parent = none := by rw [← hfg _ hpx]; unfold par; rw [hp]; rfl
        rw [moved_none hx0 hx1 hgx hq0 hq1 hgp]
        simp [placeB, hq0, hq1, hp]
      | some q =>
        have hen := tree_ends ht hp
        cases hab : abF (par l) n.id (l.length + 1) n.parent with
        | true =>
          rw [moved_loop hx0 hx1 p0 p1 hfg hgx hab]
          simp
        | false =>
          rw [short (moved_ends hx0 hx1 p0 p1 hfg hgx hen hab)]
          simp [placeB, hp, hpx]
/-- A node whose parent stays: the ways up stay. -/
theorem put_same {l : List NodG} {n m : NodG} (h : nodOf l n.id = some m) (hp : n.parent = m.parent) : par (putL l n) = par l := by
  funext z
  by_cases hz : z = n.id
  · subst hz
    unfold par
    rw [nodOf_put_same, h, Option.map_some, Option.map_some, hp]
  · unfold par
    rw [nodOf_put_other l n hz]
end Go.Proofs.YtfkgmkcndchkjaaGreatDoor.OpR
