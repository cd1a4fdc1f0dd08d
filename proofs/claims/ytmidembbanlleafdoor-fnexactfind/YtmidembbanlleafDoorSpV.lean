/- Proves what spec.Above tells. -/
import Derived.Test.YtmidembbanlleafDoorSpU
namespace Go.Proofs.YtmidembbanlleafDoor.OpR
open Go.ChangeShapes Go.WideShapes Go.ChangeAt Go.RowKit
set_option linter.unusedVariables false

theorem ab_stable {f : Int → Option Int} (h0 : f 0 = none) (h1 : f 1 = none) (y : Int) : ∀ {k : Nat} {x : Int}, endsF f k x = true → abF f y (k + 1) x = abF f y k x := by
  intro k
  induction k with
  | zero => intro x h; simp [endsF] at h
  | succ k ih =>
    intro x h
    obtain ⟨j, e, hc⟩ := ends_cases h
    obtain rfl := Nat.succ.inj e
    rcases hc with hx | ⟨_, _, z, hz, hk⟩
    · have hn : f x = none := by rcases hx with rfl | rfl <;> assumption
      simp [abF, hn]
    · show (if x = y then true else match f x with | none => false | some z => abF f y (k + 1) z) = (if x = y then true else match f x with | none => false | some z => abF f y k z)
      rw [hz]
      simp only
      rw [ih hk]
theorem ab_place {f : Int → Option Int} (h0 : f 0 = none) (h1 : f 1 = none) {y : Int} : ∀ {k j : Nat} {x : Int}, endsF f j x = true → abF f y k x = true → y = 0 ∨ y = 1 ∨ ∃ z, f y = some z := by
  intro k
  induction k with
  | zero => intro j x _ h; simp [abF] at h
  | succ k ih =>
    intro j x he h
    obtain ⟨i, _, hc⟩ := ends_cases he
    by_cases hxy : x = y
    · subst hxy
      rcases hc with (hx | hx) | ⟨_, _, z, hz, _⟩
      · exact .inl hx
      · exact .inr (.inl hx)
      · exact .inr (.inr ⟨z, hz⟩)
    · rcases hc with hx | ⟨_, _, z, hz, hk⟩
      · have hn : f x = none := by rcases hx with rfl | rfl <;> assumption
        simp [abF, hxy, hn] at h
      · exact ih hk (by simpa [abF, hxy, hz] using h)
/-- How many steps the way up has. -/
def stepsF (f : Int → Option Int) : Nat → Int → Nat
  | 0, _ => 0
  | k + 1, x => if x = 0 ∨ x = 1 then 0 else match f x with
    | none => 0
    | some y => stepsF f k y + 1
theorem steps_stable {f : Int → Option Int} : ∀ {k : Nat} {x : Int}, endsF f k x = true → stepsF f (k + 1) x = stepsF f k x := by
  intro k
  induction k with
  | zero => intro x h; simp [endsF] at h
  | succ k ih =>
    intro x h
    obtain ⟨j, e, hc⟩ := ends_cases h
    obtain rfl := Nat.succ.inj e
    rcases hc with hx | ⟨hx0, hx1, z, hz, hk⟩
    · simp [stepsF, hx]
    · show (if x = 0 ∨ x = 1 then 0 else match f x with | none => 0 | some y => stepsF f (k + 1) y + 1) = (if x = 0 ∨ x = 1 then 0 else match f x with | none => 0 | some y => stepsF f k y + 1)
      rw [hz]
      simp only
      rw [ih hk]
def stepsV (f : Int → Option Int) (N : Nat) (v : Value) : Nat := stepsF f N (intOf v)
def placeB (l : List NodG) (x : Int) : Bool := decide (x = 0) || (decide (x = 1) || (nodOf l x).isSome)
theorem tree_par {l : List NodG} (h : TreeR l) : par l 0 = none ∧ par l 1 = none := by
  have h2 : ∀ n ∈ l, isIn n.id 2 1000000 = true := fun n hn => by have := h.2.2 n hn; unfold nodOk at this; rw [Bool.and_eq_true] at this; exact this.1
  exact ⟨by unfold par; rw [no_low h2 (x := 0) (by omega)]; rfl, by unfold par; rw [no_low h2 (x := 1) (by omega)]; rfl⟩
theorem tree_ends {l : List NodG} (h : TreeR l) {x : Int} {n : NodG} (hn : nodOf l x = some n) : endsF (par l) (l.length + 1) x = true := by
  obtain ⟨hm, rfl⟩ := nodOf_some hn
  have := h.2.2 n hm
  unfold nodOk at this
  rw [Bool.and_eq_true, Bool.and_eq_true, Bool.and_eq_true] at this
  exact this.2.2.2
def aboveB (l : List NodG) (x y : Int) : Bool := treeRight l && ((nodOf l x).isSome && abF (par l) y (l.length + 1) x)

end Go.Proofs.YtmidembbanlleafDoor.OpR
