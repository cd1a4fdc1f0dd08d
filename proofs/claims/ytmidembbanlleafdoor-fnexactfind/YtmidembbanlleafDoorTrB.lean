/- What is asked of trees doesn't hang on where their props lie. -/
import Derived.Test.YtmidembbanlleafDoorTrS
import Derived.Test.YtmidembbanlleafDoorCameT
namespace Go.Proofs.YtmidembbanlleafDoor.OpR
open Go.ChangeShapes Go.WideShapes Go.ChangeAt Go.RowKit
set_option linter.unusedVariables false

theorem nodOf_bare (l : List NodG) (x : Int) : nodOf (l.map NodG.bare) x = (nodOf l x).map NodG.bare := by
  unfold nodOf
  rw [List.find?_map]
  rfl
theorem par_bare (l : List NodG) : par (l.map NodG.bare) = par l := by
  funext x
  unfold par
  rw [nodOf_bare, Option.map_map]
  rfl
theorem nodOk_bare (l : List NodG) (n : NodG) : nodOk (l.map NodG.bare) n.bare = nodOk l n := by
  unfold nodOk
  rw [par_bare, List.length_map]
  rfl
theorem risesN_bare (l : List NodG) : risesN (l.map NodG.bare) = risesN l := by
  unfold risesN
  rw [List.length_map]
  congr 1
  funext i
  unfold nodRise
  by_cases h : i + 1 < l.length
  · rw [dif_pos (by simpa using h), dif_pos h]
    simp [NodG.bare]
  · rw [dif_neg (by simpa using h), dif_neg h]
theorem tree_bare (l : List NodG) : treeRight (l.map NodG.bare) = treeRight l := by
  unfold treeRight
  rw [risesN_bare, List.length_map, List.all_map]
  congr 2
  congr 1
  funext n
  exact nodOk_bare l n
theorem tree_alike {l d : List NodG} (h : d.map NodG.bare = l.map NodG.bare) : treeRight d = treeRight l := by
  rw [← tree_bare d, h, tree_bare]
theorem bare_mem {l d : List NodG} (h : d.map NodG.bare = l.map NodG.bare) {n : NodG} (hn : n ∈ d) : ∃ m ∈ l, n.bare = m.bare := by
  have : n.bare ∈ d.map NodG.bare := List.mem_map.2 ⟨n, hn, rfl⟩
  rw [h] at this
  obtain ⟨m, hm, e⟩ := List.mem_map.1 this
  exact ⟨m, hm, e.symm⟩
theorem bare_eq {n m : NodG} (h : n.bare = m.bare) : n.id = m.id ∧ n.parent = m.parent ∧ n.name = m.name ∧ n.props = m.props := by
  simp only [NodG.bare, NodG.mk.injEq, and_true] at h
  exact h
theorem bare_len {l d : List NodG} (h : d.map NodG.bare = l.map NodG.bare) : d.length = l.length := by simpa using congrArg List.length h
theorem rng_alike {l d : List NodG} (h : d.map NodG.bare = l.map NodG.bare) (hg : Rng l) : Rng d := fun n hn => by
  obtain ⟨m, hm, e⟩ := bare_mem h hn
  obtain ⟨e1, e2, _, _⟩ := bare_eq e
  rw [e1, e2]
  exact hg m hm
theorem sized_alike {k : Nat} {l d : List NodG} (h : d.map NodG.bare = l.map NodG.bare) (hg : ∀ n ∈ l, Sized1 k n) : ∀ n ∈ d, Sized1 k n := fun n hn => by
  obtain ⟨m, hm, e⟩ := bare_mem h hn
  obtain ⟨_, _, e3, e4⟩ := bare_eq e
  have := hg m hm
  unfold Sized1 at *
  rw [e3, e4]
  exact this
end Go.Proofs.YtmidembbanlleafDoor.OpR
