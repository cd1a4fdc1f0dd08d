/- Proves what impl.OpRight tells of an op, and impl's tests of stamps and of rows of ops. -/
import Derived.Test.YtmidembbanlleafDoorOpY
namespace Go.Proofs.YtmidembbanlleafDoor.OpR
open Go.ChangeShapes Go.WideShapes Go.ChangeAt Go.RowKit
set_option linter.unusedVariables false

set_option maxHeartbeats 400000 in
theorem iNode_any (n : Int) (w : World) : Calls Tryd.prog 38 #[.int .i64 n] w fun e w' => e = .returned (.bool (isIn n 2 1000000)) ∧ w = w' := by
  go_enter Tryd.func38, Tryd.ntmps38
  go_wp2
  · go_ret; rename_i h; exact ⟨ret_bool (by simp [isIn, h]), rfl⟩
  · go_ret; rename_i h; exact ⟨ret_bool (by unfold isIn; rw [decide_eq_false (by omega)]; rfl), rfl⟩
/-- What impl asks of each op of a row. -/
def EachR (l : List OpV) : Prop := l.length ≤ 150 ∧ ∀ i (h : i < l.length), opRight l[i] = true
def eachR (l : List OpV) : Bool := decide (l.length ≤ 150) && allRight l
theorem each_iff (l : List OpV) : eachR l = true ↔ EachR l := by
  unfold eachR EachR
  rw [Bool.and_eq_true, allRight_iff, decide_eq_true_iff]
theorem each_yes {l : List OpV} (h : EachR l) : eachR l = true := (each_iff l).2 h
theorem each_no {l : List OpV} (h : ¬ EachR l) : eachR l = false := bool_no (each_iff l) h
end Go.Proofs.YtmidembbanlleafDoor.OpR
