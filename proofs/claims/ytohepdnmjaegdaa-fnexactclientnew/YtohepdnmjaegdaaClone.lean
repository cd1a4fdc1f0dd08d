/- Proves what strings.Clone tells of a text: the same text, in new memory. -/
import Derived.Test.YtohepdnmjaegdaaJoin
import Derived.Lib.UnsafeStr
namespace Go.Proofs.Ytohepdnmjaegdaa.NumR
open Go.ChangeShapes Go.WideShapes Go.ChangeAt Go.RowKit
set_option linter.unusedVariables false

theorem row_full {N : Nat} {l : List UInt8} (h : l.length = N) : row N l = (cellsOf l).toArray := by
  unfold row
  rw [h, Nat.sub_self]
  simp
end Go.Proofs.Ytohepdnmjaegdaa.NumR
