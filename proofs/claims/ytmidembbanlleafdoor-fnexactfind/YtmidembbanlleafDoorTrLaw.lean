/- Proves the walk of the law FnExactTreeRight. -/
import Derived.Test.YtmidembbanlleafDoorTrB
import Derived.Test.YtmidembbanlleafDoorITree
namespace Go.Proofs.YtmidembbanlleafDoor.OpR
open Go.ChangeShapes Go.WideShapes Go.ChangeAt Go.RowKit
set_option linter.unusedVariables false

theorem Box1.other {w c : World} {g : Nat} {v : Value} {T : TypeId} (h : Box1 w c g v T) (o : Obj) : Box1 w (c.alloc o) g v T := h.step ((Below.refl _ _).alloc (Nat.le_refl _) _)
end Go.Proofs.YtmidembbanlleafDoor.OpR
