/- Proves what the harness does with clients: sizes, copies, comparisons. -/
import Derived.Test.YtdjjpaleemnikaaCliS
import Derived.Test.YtdjjpaleemnikaaSzW
import Derived.Test.YtdjjpaleemnikaaOpS
namespace Go.Proofs.Ytdjjpaleemnikaa.OpR
open Go.ChangeShapes Go.WideShapes Go.ChangeAt Go.RowKit
set_option linter.unusedVariables false

/-- A variable of six cells. -/
def Six (w : World) (g : Nat) (T : TypeId) (v0 v1 v2 v3 v4 v5 : Value) : Prop := w.heap[g]? = some (.cells #[v0, v1, v2, v3, v4, v5] T (0, 0))
section
variable {w w' : World} {g : Nat} {T : TypeId} {v0 v1 v2 v3 v4 v5 : Value}
theorem Six.lt (h : Six w g T v0 v1 v2 v3 v4 v5) : g < w.heap.size := (Array.getElem?_eq_some_iff.1 h).1
theorem Six.step (h : Six w g T v0 v1 v2 v3 v4 v5) (hb : Below w.heap.size w w') : Six w' g T v0 v1 v2 v3 v4 v5 := (hb.block g h.lt).trans h
theorem Six.cells (h : Six w g T v0 v1 v2 v3 v4 v5) : w.cell? ⟨g, 0, none⟩ = some v0 ∧ w.cell? ⟨g, 1, none⟩ = some v1 ∧ w.cell? ⟨g, 2, none⟩ = some v2 ∧ w.cell? ⟨g, 3, none⟩ = some v3 ∧ w.cell? ⟨g, 4, none⟩ = some v4 ∧ w.cell? ⟨g, 5, none⟩ = some v5 ∧ w.frozen? ⟨g, 0, none⟩ = false ∧ w.frozen? ⟨g, 1, none⟩ = false ∧ w.frozen? ⟨g, 2, none⟩ = false ∧ w.frozen? ⟨g, 3, none⟩ = false ∧ w.frozen? ⟨g, 4, none⟩ = false ∧ w.frozen? ⟨g, 5, none⟩ = false := by
  unfold Six at h
  refine ⟨?_, ?_, ?_, ?_, ?_, ?_, ?_, ?_, ?_, ?_, ?_, ?_⟩ <;> simp [World.cell?, World.frozen?, h]
theorem Six.other {b i : Nat} {v : Value} (h : Six w g T v0 v1 v2 v3 v4 v5) (hne : g ≠ b) : Six (w.setCell ⟨b, i, none⟩ v) g T v0 v1 v2 v3 v4 v5 := (Below.heap_setCell _ _ _ _ hne).trans h
theorem Six.set2 (h : Six w g T v0 v1 v2 v3 v4 v5) (v : Value) : Six (w.setCell ⟨g, 2, none⟩ v) g T v0 v1 v v3 v4 v5 := set_block h 2 v
theorem Six.set3 (h : Six w g T v0 v1 v2 v3 v4 v5) (v : Value) : Six (w.setCell ⟨g, 3, none⟩ v) g T v0 v1 v2 v v4 v5 := set_block h 3 v
theorem Six.set4 (h : Six w g T v0 v1 v2 v3 v4 v5) (v : Value) : Six (w.setCell ⟨g, 4, none⟩ v) g T v0 v1 v2 v3 v v5 := set_block h 4 v
theorem Six.set5 (h : Six w g T v0 v1 v2 v3 v4 v5) (v : Value) : Six (w.setCell ⟨g, 5, none⟩ v) g T v0 v1 v2 v3 v4 v := set_block h 5 v
end
theorem CliBox.set {w c : World} {g b i : Nat} {T : TypeId} {x : CliV} {la : Option Addr} {lc : Nat} {oa : Option Addr} {oc : Nat} {v : Value} (h : CliBox w c g T x la lc oa oc) (hne : g ≠ b) (hb : w.heap.size ≤ b) : CliBox w (c.setCell ⟨b, i, none⟩ v) g T x la lc oa oc :=
  ⟨(Below.heap_setCell _ _ _ _ hne).trans h.1, h.2.setCell (p := ⟨b, i, none⟩) hb v⟩
theorem OpsIn.setAway {w : World} {g b i : Nat} {T : TypeId} {l : List OpV} {x : Value} (h : OpsIn w g T l) (hne : g ≠ b) : OpsIn (w.setCell ⟨b, i, none⟩ x) g T l := by
  unfold OpsIn at *
  rw [heap_setCell_other _ _ _ _ hne]; exact h
end Go.Proofs.Ytdjjpaleemnikaa.OpR
