/- A region that draws its order and whose operations leave the world in a class of worlds: one walk in the order of the text serves every order. -/
import Derived.Test.YtfkgmkcndchkjaaGreatDoorOpM
import Derived.Deep.QuietTactic
import Derived.BigQuiet
namespace Go.Proofs.YtfkgmkcndchkjaaGreatDoor.OpR
open Go.ChangeShapes Go.WideShapes Go.ChangeAt Go.RowKit
set_option linter.unusedVariables false
/-- The worlds of a class. -/
structure ClsW (S : World → Prop) where
  wd : World
  ok : S wd
theorem region_class {ι : Type} (f : ι → World) {P : Program} {id : Nat} {Q : Exit → Act → World → Prop} {a : Act} {w : World} {l : List Oper} (hm : P.follows .mixedOrders = true) (hB : Region.lexB .any l.toArray = true) (i0 : ι) (h0 : f i0 = w.drew)
    (h : wpQuiet P l.toArray (fun w' => ∃ n, w' = f n) (fun a' => ∀ w', (∃ n, w' = f n) → Q .normal a' w') l a) : (Code.region id l.toArray true).wp P Q a w :=
  wp_region_quiet (C := fun w' => ∃ n, w' = f n) hm hB ⟨i0, h0.symm⟩ (by simpa using h)
end Go.Proofs.YtfkgmkcndchkjaaGreatDoor.OpR
