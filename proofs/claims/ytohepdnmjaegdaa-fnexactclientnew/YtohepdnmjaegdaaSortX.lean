/- Proves what impl.sorted makes of ops: the same ops, in order, in new memory. -/
import Derived.Test.YtohepdnmjaegdaaSortW
namespace Go.Proofs.Ytohepdnmjaegdaa.OpR
open Go.ChangeShapes Go.WideShapes Go.ChangeAt Go.RowKit
set_option linter.unusedVariables false

/-- A row that the call owns, or nil, as a slice of ops. -/
theorem owns_at {w : World} {base : Nat} {T : TypeId} {v : Value} {l : List OpV} (h : w.ownsRow base T 7 v l.length (flat l)) : ∃ ao c, v = .slice ao l.length c ∧ l.length ≤ c ∧ OpsAt w ao l := by
  by_cases hv : v = .slice none 0 0
  · rcases h.2 with ⟨e, hn⟩ | ⟨g, cap, cur, e, _⟩
    · have hl : l = [] := List.eq_nil_of_length_eq_zero (by simpa using hn)
      subst hl
      exact ⟨none, 0, e, Nat.le_refl _, fun j hj => absurd hj (by simp)⟩
    · rw [e] at hv; simp at hv
  · obtain ⟨g, cap, e, _, _, h1, _, h2⟩ := OwnAt.at ⟨h, hv⟩
    exact ⟨_, cap, e, h1, h2⟩
theorem owns_stays {w w' : World} {base : Nat} {T : TypeId} {v : Value} {l : List OpV} (h : w.ownsRow base T 7 v l.length (flat l)) (hb : Below w.heap.size w w') : w'.ownsRow base T 7 v l.length (flat l) :=
  h.kept (row := none) ⟨hb.os, hb.tape, hb.output, hb.size, fun k hk _ => hb.block k hk⟩ (by cases hv : v.ownBlock <;> simp)
theorem ord_short {l : List OpV} (h : l.length < 2) : Orderd l := by
  match l, h with
  | [], _ => simp [Orderd]
  | [x], _ => simp [Orderd]

end Go.Proofs.Ytohepdnmjaegdaa.OpR
