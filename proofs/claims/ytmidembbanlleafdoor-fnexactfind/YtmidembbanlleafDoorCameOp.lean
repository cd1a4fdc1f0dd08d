/- What is known of ops that come in as arguments. -/
import Derived.Test.YtmidembbanlleafDoorOpM
import Derived.SizedLaws
import Derived.Deep.Slices
namespace Go.Proofs.YtmidembbanlleafDoor.OpR
open Go.ChangeShapes Go.WideShapes Go.ChangeAt Go.RowKit
set_option linter.unusedVariables false

theorem laidOut : laidOutB Tryd.prog = true := by kernel_rfl
theorem cellsI : Tryd.prog.cellsOf 2 = 1 := by kernel_rfl
theorem cellsS : Tryd.prog.cellsOf 9 = 1 := by kernel_rfl
theorem shape_lt {w : World} {b : Nat} {x : TypeId × Nat} (h : w.shape? b = some x) : b < w.heap.size := by
  rcases Nat.lt_or_ge b w.heap.size with h' | h'
  · exact h'
  · unfold World.shape? at h
    rw [Array.getElem?_eq_none h'] at h
    simp at h

section
variable {H : Type} {enc : TypeId × Value → H} {w : World} {base : Nat} {spare : Nat → Bool} {held : Bool}
end
/-- A row of them that comes in. -/
def CameOps (w : World) (ao : Option Addr) (l : List OpV) : Prop := l.length ≤ maxLen ∧ OpsAt w ao l ∧ (∀ o ∈ l, o.name.size ≤ maxLen ∧ o.value.size ≤ maxLen) ∧ ∀ a, ao = some a → a.block < w.heap.size
end Go.Proofs.YtmidembbanlleafDoor.OpR
