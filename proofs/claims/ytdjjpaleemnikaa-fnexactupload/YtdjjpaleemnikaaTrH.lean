/- Proves what the harness does with trees: how much is in them, copies of them, comparisons. -/
import Derived.Test.YtdjjpaleemnikaaTrM
namespace Go.Proofs.Ytdjjpaleemnikaa.OpR
open Go.ChangeShapes Go.WideShapes Go.ChangeAt Go.RowKit
set_option linter.unusedVariables false

def SizedP (m : Nat) (l : List PropV) : Prop := ∀ p ∈ l, p.key.size ≤ m ∧ p.value.size ≤ m
/-- How long the texts of one node are. -/
def Sized1 (m : Nat) (n : NodG) : Prop := n.name.size ≤ m ∧ n.props.length ≤ m ∧ SizedP m n.props
end Go.Proofs.Ytdjjpaleemnikaa.OpR
