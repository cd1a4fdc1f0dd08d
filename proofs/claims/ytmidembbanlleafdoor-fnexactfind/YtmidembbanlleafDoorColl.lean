/- Proves what slices.Collect(maps.Values(nodes)) makes of a map of nodes: its nodes, each once, in some order, in a row of its own. -/
import Derived.Test.YtmidembbanlleafDoorIMap
import Derived.Test.YtmidembbanlleafDoorRowG
import Derived.RangeFuncNested
import Derived.RangeFuncBound
import Derived.RangeFuncCalls
import Derived.RangeFuncLeaves
import Derived.Sort.MapsRangeIn
import Derived.Maps.AppendAt
import Derived.Maps.OwnIn
import Derived.Shelf.Abstract
import Derived.Shelf.RegionOpen
import Derived.OwnWalkIn
import Derived.TacticsInMore
import Derived.RegionIn
import Derived.LoopNIn
import Derived.LoopIn
namespace Go.Proofs.YtmidembbanlleafDoor.OpR
open Go.ChangeShapes Go.WideShapes Go.ChangeAt Go.RowKit Go.Shelf
set_option linter.unusedVariables false
attribute [local go_sem] Oper.semAt_some

/-- What has come of the map, while the rest is still to come. -/
structure CollK (m : List (Int × NodG)) (left : Lit → Bool) (ps : List (Int × NodG)) : Prop where
  once : (ps.map Prod.fst).Nodup
  keys : ∀ x, x ∈ ps.map Prod.fst ↔ ((kvAt m x).isSome = true ∧ left (.int .i64 x) = false)
  vals : ∀ p ∈ ps, kvAt m p.1 = some p.2
theorem CollK.start (m : List (Int × NodG)) : CollK m (Maps.has (kvD m)) [] := ⟨by simp, fun x => by rw [kvD_has]; cases (kvAt m x).isSome <;> simp, by simp⟩
theorem CollK.step {m : List (Int × NodG)} {left : Lit → Bool} {ps : List (Int × NodG)} (h : CollK m left ps) {x : Int} {n : NodG} (hl : left (.int .i64 x) = true) (hn : kvAt m x = some n) : CollK m (fun z => left z && !z.sameKey (.int .i64 x)) (ps ++ [(x, n)]) := by
  refine ⟨?_, fun y => ?_, fun p hp => ?_⟩
  · rw [List.map_append, List.nodup_append]
    refine ⟨h.once, by simp, fun a ha b hb => ?_⟩
    simp only [List.map_cons, List.map_nil, List.mem_singleton] at hb
    subst hb
    intro e
    subst e
    have := ((h.keys a).1 ha).2
    rw [hl] at this
    cases this
  · rw [List.map_append, List.mem_append, h.keys y]
    simp only [List.map_cons, List.map_nil, List.mem_singleton, same_int]
    by_cases e : y = x
    · subst e; simp [hn]
    · simp [e]
  · rcases List.mem_append.1 hp with hp | hp
    · exact h.vals p hp
    · obtain rfl := List.mem_singleton.1 hp
      exact hn
/-- All have come. -/
def AllK (m : List (Int × NodG)) (xs : List NodG) : Prop := ∃ ps : List (Int × NodG), (ps.map Prod.fst).Nodup ∧ (∀ x, x ∈ ps.map Prod.fst ↔ (kvAt m x).isSome = true) ∧ (∀ p ∈ ps, kvAt m p.1 = some p.2) ∧ xs = ps.map Prod.snd

theorem new4 (W : World) (x : NodG) : ∀ j u, x.cells[j]? = some u → (W.alloc (.cells #[.int .i64 x.id, .int .i64 x.parent, .string x.name, .slice x.pao x.props.length x.pcap] 53)).cell? ((⟨W.heap.size, 0, none⟩ : Addr).add j) = some u := by
  intro j u hu
  rw [Addr.add_lit]
  obtain ⟨h0, h1, h2, h3, _⟩ := cells4 (heap_alloc_new W (.cells #[.int .i64 x.id, .int .i64 x.parent, .string x.name, .slice x.pao x.props.length x.pcap] 53))
  match j, hu with
  | 0, hu => exact h0.trans hu
  | 1, hu => exact h1.trans hu
  | 2, hu => exact h2.trans hu
  | 3, hu => exact h3.trans hu
  | j + 4, hu => simp [NodG.cells] at hu
theorem one4 (x : NodG) : ∀ u ∈ x.cells, u.oneCell' = true := by
  intro u hu
  simp only [NodG.cells, List.mem_cons, List.not_mem_nil, or_false] at hu
  rcases hu with rfl | rfl | rfl | rfl <;> rfl
/-- What all of a map with different numbers come to. -/
theorem AllK.perm {m : List (Int × NodG)} {xs : List NodG} (h : AllK m xs) (hn : (m.map Prod.fst).Nodup) : xs.Perm (m.map Prod.snd) := by
  obtain ⟨ps, h1, h2, h3, rfl⟩ := h
  refine List.Perm.map _ ?_
  have nd : ∀ {l : List (Int × NodG)}, (l.map Prod.fst).Nodup → l.Nodup := fun h => List.Pairwise.of_map Prod.fst (fun a b hab e => hab (by rw [e])) h
  have atm : ∀ p, p ∈ m ↔ kvAt m p.1 = some p.2 := fun p => by
    constructor
    · intro hp
      cases hf : m.find? (fun q => decide (q.1 = p.1)) with
      | none =>
        have := List.find?_eq_none.1 hf p hp
        simp at this
      | some q =>
        have hq := List.mem_of_find?_eq_some hf
        have e : q.1 = p.1 := by simpa using List.find?_some hf
        have : q = p := by
          have hin := List.pairwise_map.1 hn
          rcases List.getElem_of_mem hq with ⟨i, hi, rfl⟩
          rcases List.getElem_of_mem hp with ⟨j, hj, rfl⟩
          have hpw := List.pairwise_iff_getElem.1 hin
          rcases Nat.lt_trichotomy i j with h | h | h
          · exact absurd e (hpw i j hi hj h)
          · subst h; rfl
          · exact absurd e.symm (hpw j i hj hi h)
        subst this
        unfold kvAt
        rw [hf]
        rfl
    · intro h
      unfold kvAt at h
      obtain ⟨q, hq, e⟩ := Option.map_eq_some_iff.1 h
      have h1 := List.mem_of_find?_eq_some hq
      have h2 : q.1 = p.1 := by simpa using List.find?_some hq
      have : q = p := Prod.ext h2 e
      rw [← this]
      exact h1
  rw [List.perm_ext_iff_of_nodup (nd h1) (nd hn)]
  intro p
  rw [atm p]
  constructor
  · exact h3 p
  · intro hp
    have : p.1 ∈ ps.map Prod.fst := (h2 p.1).2 (by rw [hp]; rfl)
    obtain ⟨q, hq, e⟩ := List.mem_map.1 this
    have hv := h3 q hq
    rw [e, hp] at hv
    have : q = p := Prod.ext e (by simpa using hv.symm)
    rwa [← this]
end Go.Proofs.YtmidembbanlleafDoor.OpR
