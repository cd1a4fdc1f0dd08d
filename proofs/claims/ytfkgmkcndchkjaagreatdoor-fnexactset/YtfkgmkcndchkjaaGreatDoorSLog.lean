/- Proves what spec.LogAdd tells. -/
import Derived.Test.YtfkgmkcndchkjaaGreatDoorAddW
namespace Go.Proofs.YtfkgmkcndchkjaaGreatDoor.OpR
open Go.ChangeShapes Go.WideShapes Go.ChangeAt Go.RowKit
set_option linter.unusedVariables false

/-- What LogAdd tells: the ops, how many are new, the code. -/
def logRes (l m : List OpV) : List OpV × Int × Int :=
  if 400 < l.length ∨ 400 < m.length then ([], 0, 2) else if logRight l = true ∧ opsRight m = true then addRes l m else ([], 0, 1)
theorem log_far {l m : List OpV} (h : 400 < l.length ∨ 400 < m.length) : logRes l m = ([], 0, 2) := if_pos h
theorem log_form {l m : List OpV} (h : ¬ (400 < l.length ∨ 400 < m.length)) (h2 : ¬ (logRight l = true ∧ opsRight m = true)) : logRes l m = ([], 0, 1) := (if_neg h).trans (if_neg h2)
theorem log_add {l m : List OpV} (h : ¬ (400 < l.length ∨ 400 < m.length)) (h2 : logRight l = true ∧ opsRight m = true) : logRes l m = addRes l m := (if_neg h).trans (if_pos h2)
theorem log_of {l : List OpV} (h : logRight l = true) : LogR l := by
  refine Classical.byContradiction fun hn => ?_
  rw [log_no hn] at h
  cases h
theorem opsR_of {l : List OpV} (h : opsRight l = true) : OpsR l := by
  refine Classical.byContradiction fun hn => ?_
  rw [ops_no hn] at h
  cases h
/-- An answer of ops: the row that is told is the call's own, or nil. -/
def OutAt (w w' : World) (e : Ending) (r : List OpV × Int × Int) : Prop := ∃ v, e = .returned (.agg #[v, .int .i64 r.2.1, .int .i64 r.2.2]) ∧ OpsOf w' w.heap.size 30 v r.1 ∧ Below w.heap.size w w'
theorem OpsOf.base {w : World} {base base' : Nat} {T : TypeId} {v : Value} {l : List OpV} (h : OpsOf w base T v l) (hb : base' ≤ base) : OpsOf w base' T v l := by
  rcases h with ⟨h1, h2⟩ | h
  · exact .inl ⟨owns_base h1 hb, h2⟩
  · exact .inr h

theorem OpsOf.at {w : World} {base : Nat} {T : TypeId} {v : Value} {l : List OpV} (h : OpsOf w base T v l) : ∃ ao c, v = .slice ao l.length c ∧ l.length ≤ c ∧ OpsAt w ao l := by
  rcases h with h | ⟨rfl, rfl⟩
  · obtain ⟨g, cap, e, _, _, h1, _, h2⟩ := h.at
    exact ⟨_, cap, e, h1, h2⟩
  · exact ⟨none, 0, rfl, Nat.le_refl _, fun j hj => absurd hj (by simp)⟩
theorem OpsOf.setCell {w : World} {base : Nat} {T : TypeId} {v : Value} {l : List OpV} (h : OpsOf w base T v l) {b i : Nat} {x : Value} (hb : b < base) : OpsOf (w.setCell ⟨b, i, none⟩ x) base T v l := by
  rcases h with h | h
  · exact .inl (h.setCell hb)
  · exact .inr h

end Go.Proofs.YtfkgmkcndchkjaaGreatDoor.OpR
