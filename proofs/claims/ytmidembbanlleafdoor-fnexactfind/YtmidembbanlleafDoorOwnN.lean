/- Proves what impl.ownNodes makes: the same nodes, in new memory down to the texts. -/
import Derived.Test.YtmidembbanlleafDoorOwnT
import Derived.Test.YtmidembbanlleafDoorIHold
namespace Go.Proofs.YtmidembbanlleafDoor.OpR
open Go.ChangeShapes Go.WideShapes Go.ChangeAt Go.RowKit
set_option linter.unusedVariables false

theorem Box4.set2 {w c : World} {g : Nat} {n : NodG} (h : Box4 w c g n) (hg : w.heap.size ≤ g) : Box4 w (c.setCell ⟨g, 2, none⟩ (.string n.name)) g n :=
  ⟨h.below.setCell hg _, (set_block h.lies 2 (.string n.name)).trans rfl⟩
theorem Box4.set3 {w c : World} {g : Nat} {n : NodG} (h : Box4 w c g n) (hg : w.heap.size ≤ g) (ao : Option Addr) (cap : Nat) : Box4 w (c.setCell ⟨g, 3, none⟩ (.slice ao n.props.length cap)) g { n with pao := ao, pcap := cap } :=
  ⟨h.below.setCell hg _, (set_block h.lies 3 (.slice ao n.props.length cap)).trans rfl⟩
theorem new4g (W : World) (n : NodG) (T : TypeId) : ∀ j u, n.cells[j]? = some u → (W.alloc (.cells #[.int .i64 n.id, .int .i64 n.parent, .string n.name, .slice n.pao n.props.length n.pcap] T)).cell? ((⟨W.heap.size, 0, none⟩ : Addr).add j) = some u := by
  intro j u hu
  rw [Addr.add_lit, Nat.zero_add, World.cell?_alloc_at _ _ _ _ rfl]
  simpa [NodG.cells] using hu
theorem one4g (x : NodG) : ∀ u ∈ x.cells, u.oneCell' = true := by
  intro u hu
  simp only [NodG.cells, List.mem_cons, List.not_mem_nil, or_false] at hu
  rcases hu with rfl | rfl | rfl | rfl <;> rfl
theorem new4s (x : World) (g : Nat) (n : NodG) (ao : Option Addr) (cap : Nat) : ∀ j u, (NodG.cells ⟨n.id, n.parent, n.name, n.props, ao, cap⟩)[j]? = some u → ((x.setCell ⟨g, 3, none⟩ (.slice ao n.props.length cap)).alloc (.cells #[.int .i64 n.id, .int .i64 n.parent, .string n.name, .slice ao n.props.length cap] 53)).cell? ((⟨x.heap.size, 0, none⟩ : Addr).add j) = some u := by
  have := new4g (x.setCell ⟨g, 3, none⟩ (.slice ao n.props.length cap)) ⟨n.id, n.parent, n.name, n.props, ao, cap⟩ 53
  rwa [show (x.setCell ⟨g, 3, none⟩ (.slice ao n.props.length cap)).heap.size = x.heap.size by simp [World.setCell]] at this
theorem own_row {wr x : World} {n : NodG} {base k : Nat} {v : Value} {d : List NodG} (h : Box4 wr x wr.heap.size n) (hr : wr.ownsRow base 53 4 v d.length (flatG NodG.cells d)) (hk : d.length = k) (ao : Option Addr) (cap : Nat) (o : Obj) :
    ((x.setCell ⟨wr.heap.size, 3, none⟩ (.slice ao n.props.length cap)).alloc o).ownsRow base 53 4 v k (flatG NodG.cells d) := by
  rw [← hk]
  exact (owns_stays2 hr (h.set3 (Nat.le_refl _) ao cap).below).alloc o
theorem own_props {wr x1 x2 : World} {n : NodG} {ao : Option Addr} {cap : Nat} (h : x2.ownsRow (x1.setCell ⟨wr.heap.size, 2, none⟩ (.string n.name)).heap.size 72 2 (.slice ao n.props.length cap) n.props.length (flatG PropV.cells n.props)) (hs : wr.heap.size < x1.heap.size) :
    (x2.setCell ⟨wr.heap.size, 3, none⟩ (.slice ao n.props.length cap)).ownsRow wr.heap.size 72 2 (.slice ao n.props.length cap) n.props.length (flatG PropV.cells n.props) := by
  have e : (x1.setCell ⟨wr.heap.size, 2, none⟩ (.string n.name)).heap.size = x1.heap.size := by simp [World.setCell]
  rw [e] at h
  exact owns_lower (ownsRow_setCell_below h hs _) (Nat.le_of_lt hs)
end Go.Proofs.YtmidembbanlleafDoor.OpR
