/- Proves what spec.OpRight tells of an op, and what the spec's tests of logs tell. -/
import Derived.Test.YtmidembbanlleafDoorOpL
import Derived.Test.YtmidembbanlleafDoorNameRight
namespace Go.Proofs.YtmidembbanlleafDoor.OpR
open Go.ChangeShapes Go.WideShapes Go.ChangeAt Go.RowKit
set_option linter.unusedVariables false

def isIn (n lo hi : Int) : Bool := decide (lo ≤ n) && decide (n ≤ hi)
/-- What is asked of an op besides its name, by its kind. -/
def kindRight (o : OpV) : Bool := if o.kind = 1 then isIn o.parent 0 1000000 && o.value.toList.isEmpty else if o.kind = 2 then decide (o.parent = 0) && decide ((o.value.size : Int) ≤ 40) else false
def opRight (o : OpV) : Bool := isIn o.time 1 1000000 && isIn o.repl 1 50 && isIn o.node 2 1000000 && NameR.nmB o.name && kindRight o

theorem ret_bool {a b : Bool} (h : a = b) : Ending.returned (.bool a) = .returned (.bool b) := by rw [h]
set_option maxHeartbeats 400000 in
theorem is_any (n lo hi : Int) (w : World) : Calls Tryd.prog 36 #[.int .i64 n, .int .i64 lo, .int .i64 hi] w fun e w' => e = .returned (.bool (isIn n lo hi)) ∧ w = w' := by
  go_enter Tryd.func36, Tryd.ntmps36
  go_wp2
  · go_ret; rename_i h; exact ⟨ret_bool (by simp [isIn, h]), rfl⟩
  · go_ret; rename_i h; exact ⟨ret_bool (by unfold isIn; rw [decide_eq_false (by omega)]; rfl), rfl⟩
set_option maxHeartbeats 400000 in
theorem node_any (n : Int) (w : World) : Calls Tryd.prog 21 #[.int .i64 n] w fun e w' => e = .returned (.bool (isIn n 2 1000000)) ∧ w = w' := by
  go_enter Tryd.func21, Tryd.ntmps21
  go_wp2_with (first | (go_at_call 36; refine (is_any _ _ _ _).mono ?_; rintro e w1 ⟨rfl, rfl⟩))
  go_ret
  exact ⟨rfl, rfl⟩
/-- Whether a stamp is ahead of another one. -/
def ahead (a b : OpV) : Bool := decide (a.time < b.time) || (decide (a.time = b.time) && decide (a.repl < b.repl))
def stamp (a b : OpV) : Bool := decide (a.time = b.time) && (a.repl == b.repl)
/-- Whether stamps rise. -/
def Rises (l : List OpV) : Prop := ∀ i (h : i + 1 < l.length), ahead l[i] l[i + 1] = true
/-- Whether the op behind the i-th is behind it in stamp. -/
def riseAt (l : List OpV) (i : Nat) : Bool := if h : i + 1 < l.length then ahead l[i] l[i + 1] else true
def rises (l : List OpV) : Bool := allTo l.length (riseAt l)
theorem rises_iff (l : List OpV) : rises l = true ↔ Rises l := by
  unfold rises
  rw [allTo_iff]
  constructor
  · intro h i hi
    have h1 := h i (by omega)
    unfold riseAt at h1
    rw [dif_pos hi] at h1
    exact h1
  · intro h i hi
    unfold riseAt
    by_cases h1 : i + 1 < l.length
    · rw [dif_pos h1]; exact h i h1
    · rw [dif_neg h1]
theorem rises_yes {l : List OpV} (h : Rises l) : rises l = true := (rises_iff l).2 h
theorem rises_no {l : List OpV} (h : ¬ Rises l) : rises l = false := bool_no (rises_iff l) h
/-- Whether each op is right. -/
def allRight (l : List OpV) : Bool := allTo l.length fun i => if h : i < l.length then opRight l[i] else true
theorem allRight_iff (l : List OpV) : allRight l = true ↔ ∀ i (h : i < l.length), opRight l[i] = true := by
  unfold allRight
  rw [allTo_iff]
  constructor
  · intro h i hi
    have h1 := h i hi
    rw [dif_pos hi] at h1
    exact h1
  · intro h i hi
    rw [dif_pos hi]
    exact h i hi

end Go.Proofs.YtmidembbanlleafDoor.OpR
