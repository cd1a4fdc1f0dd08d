/- Proves what spec's tests of logs and of lists of ops tell. -/
import Derived.Test.YtmidembbanlleafDoorOpX
namespace Go.Proofs.YtmidembbanlleafDoor.OpR
open Go.ChangeShapes Go.WideShapes Go.ChangeAt Go.RowKit
set_option linter.unusedVariables false

/-- What every name and value of a row keeps to. -/
def Sized (l : List OpV) : Prop := ∀ o ∈ l, o.name.size ≤ maxLen ∧ o.value.size ≤ maxLen
def LogR (l : List OpV) : Prop := (∀ i (h : i < l.length), opRight l[i] = true) ∧ l.length ≤ 150 ∧ Rises l
def logRight (l : List OpV) : Bool := allRight l && (decide (l.length ≤ 150) && rises l)
theorem log_iff (l : List OpV) : logRight l = true ↔ LogR l := by
  unfold logRight LogR
  rw [Bool.and_eq_true, Bool.and_eq_true, allRight_iff, decide_eq_true_iff, rises_iff]
theorem log_yes {l : List OpV} (h : LogR l) : logRight l = true := (log_iff l).2 h
theorem log_no {l : List OpV} (h : ¬ LogR l) : logRight l = false := bool_no (log_iff l) h
theorem log_and {l : List OpV} (h : ∀ i (h : i < l.length), opRight l[i] = true) : logRight l = (decide (l.length ≤ 150) && rises l) := by
  by_cases h1 : l.length ≤ 150
  · by_cases h2 : Rises l
    · rw [log_yes ⟨h, h1, h2⟩, rises_yes h2, decide_eq_true h1]; rfl
    · rw [log_no fun hh => h2 hh.2.2, rises_no h2, decide_eq_true h1]; rfl
  · rw [log_no fun hh => h1 hh.2.1, decide_eq_false h1]; rfl

/-- What is asked of a list of ops. -/
def OpsR (l : List OpV) : Prop := l.length ≤ 150 ∧ (∀ i (h : i < l.length), opRight l[i] = true) ∧ ∀ i k (h : i < l.length) (hk : k < i), stamp l[k] l[i] = false
/-- Whether two places hold other stamps. -/
def apartAt (l : List OpV) (i k : Nat) : Bool := if h : i < l.length ∧ k < i then !stamp (l[k]'(Nat.lt_trans h.2 h.1)) (l[i]'h.1) else true
def allApart (l : List OpV) : Bool := allTo l.length fun i => allTo i (apartAt l i)
theorem allApart_iff (l : List OpV) : allApart l = true ↔ ∀ i k (h : i < l.length) (hk : k < i), stamp l[k] l[i] = false := by
  unfold allApart
  rw [allTo_iff]
  constructor
  · intro h i k hi hk
    have h1 := (allTo_iff _ _).1 (h i hi) k hk
    unfold apartAt at h1
    rw [dif_pos ⟨hi, hk⟩] at h1
    simpa using h1
  · intro h i hi
    rw [allTo_iff]
    intro k hk
    unfold apartAt
    rw [dif_pos ⟨hi, hk⟩, h i k hi hk]
    rfl
def opsRight (l : List OpV) : Bool := decide (l.length ≤ 150) && (allRight l && allApart l)
theorem ops_iff (l : List OpV) : opsRight l = true ↔ OpsR l := by
  unfold opsRight OpsR
  rw [Bool.and_eq_true, Bool.and_eq_true, allRight_iff, decide_eq_true_iff, allApart_iff]
theorem ops_yes {l : List OpV} (h : OpsR l) : opsRight l = true := (ops_iff l).2 h
theorem ops_no {l : List OpV} (h : ¬ OpsR l) : opsRight l = false := bool_no (ops_iff l) h

end Go.Proofs.YtmidembbanlleafDoor.OpR
