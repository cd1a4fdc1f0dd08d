/- Proves what impl.ownProps and impl.ownNodes make: the same props and nodes, in new memory down to the texts. -/
import Derived.Test.YtmidembbanlleafDoorMrgP
import Derived.Test.YtmidembbanlleafDoorMrgN
import Derived.Test.YtmidembbanlleafDoorRowS
import Derived.Test.YtmidembbanlleafDoorClone
namespace Go.Proofs.YtmidembbanlleafDoor.OpR
open Go.ChangeShapes Go.WideShapes Go.ChangeAt Go.RowKit
set_option linter.unusedVariables false

theorem new2 (W : World) (x : PropV) : ∀ j u, x.cells[j]? = some u → (W.alloc (.cells #[.string x.key, .string x.value] 72)).cell? ((⟨W.heap.size, 0, none⟩ : Addr).add j) = some u := by
  intro j u hu
  rw [Addr.add_lit, Nat.zero_add, World.cell?_alloc_at _ _ _ _ rfl]
  simpa [PropV.cells] using hu
theorem cells2 {w : World} {g : Nat} {v0 v1 : Value} {T : TypeId} (h : w.heap[g]? = some (.cells #[v0, v1] T (0, 0))) : w.cell? ⟨g, 0, none⟩ = some v0 ∧ w.cell? ⟨g, 1, none⟩ = some v1 := by
  exact ⟨by simp [World.cell?, h], by simp [World.cell?, h]⟩
/-- Nodes of which the first have been copied. -/
structure Owned (w : World) (base : Nat) (v : Value) (l d : List NodG) : Prop where
  own : TreeOwn w base v d
  bare : d.map NodG.bare = (l.take d.length).map NodG.bare
theorem TreeOwn.blk {w : World} {base : Nat} {v : Value} {l : List NodG} (h : TreeOwn w base v l) {n : NodG} (hn : n ∈ l) {x : Addr} (hx : n.pao = some x) : base ≤ x.block ∧ x.block < w.heap.size := by
  have := (h.props n hn).lt x.block (by rw [hx]; rfl)
  exact this
/-- A node put behind the others: its props in a row of their own, laid since. -/
theorem TreeOwn.snoc {w w1 w2 : World} {base : Nat} {v v2 : Value} {l : List NodG} {n : NodG} (h : TreeOwn w base v l) (hb1 : Below w.heap.size w w1)
    (hp : w1.ownsRow w.heap.size 72 2 (.slice n.pao n.props.length n.pcap) n.props.length (flatG PropV.cells n.props)) (hbase : base ≤ w.heap.size) {o : Obj}
    (hg : (w1.alloc o).grownBy w2 v.ownBlock) (hat : v2.ownBlock = v.ownBlock ∨ v2.ownBlock = some (w1.heap.size + 1))
    (hr : w2.ownsRow base 53 4 v2 (l.length + 1) (flatG NodG.cells (l ++ [n]))) : TreeOwn w2 base v2 (l ++ [n]) := by
  have hlt : ∀ k, v.ownBlock = some k → base ≤ k ∧ k < w.heap.size := h.row.lt
  have hnp : ∀ x, n.pao = some x → w.heap.size ≤ x.block ∧ x.block < w1.heap.size := fun x hx => hp.lt x.block (by rw [hx]; rfl)
  refine ⟨by rw [List.length_append]; exact hr, fun m hm => ?_, ?_, fun m hm x hx => ?_⟩
  · rcases List.mem_append.1 hm with hm | hm
    · refine ((owns_stays2 (h.props m hm) hb1).alloc o).kept hg ?_
      cases hx : m.pao with
      | none => exact .inl rfl
      | some x =>
        refine .inr fun e => h.off m hm x hx ?_
        exact e.symm
    · obtain rfl := List.mem_singleton.1 hm
      refine ((owns_lower hp hbase).alloc o).kept hg ?_
      cases hx : m.pao with
      | none => exact .inl rfl
      | some x =>
        refine .inr fun e => ?_
        have h1 := (hlt x.block e.symm).2
        have h2 := (hnp x hx).1
        omega
  · rw [List.pairwise_append]
    refine ⟨h.apart, by simp, fun a ha b hb x y hx hy => ?_⟩
    obtain rfl := List.mem_singleton.1 hb
    have h1 := (h.blk ha hx).2
    have h2 := (hnp y hy).1
    omega
  · rcases List.mem_append.1 hm with hm | hm
    · rcases hat with e | e
      · rw [e]; exact h.off m hm x hx
      · rw [e]
        have h1 := (h.blk hm hx).2
        have h2 := hb1.size
        simp
        omega
    · obtain rfl := List.mem_singleton.1 hm
      have h2 := hnp x hx
      rcases hat with e | e
      · rw [e]
        intro e'
        have := (hlt x.block e').2
        omega
      · rw [e]
        simp
        omega
end Go.Proofs.YtmidembbanlleafDoor.OpR
