/- Plain mathematics of putting ops to a log. -/
import Derived.Test.YtlphcbgeagmopaaOpY
namespace Go.Proofs.Ytlphcbgeagmopaa.OpR
set_option linter.unusedVariables false

/-- Where an op belongs: behind those that are ahead of it. -/
def place (out : List OpV) (o : OpV) : Nat := (out.takeWhile (fun x => ahead x o)).length
theorem place_le (out : List OpV) (o : OpV) : place out o ≤ out.length := (List.takeWhile_sublist _).length_le
theorem place_eq {out : List OpV} {o : OpV} {k : Nat} (hk : k ≤ out.length) (h1 : ∀ j (h : j < out.length), j < k → ahead out[j] o = true) (h2 : ∀ h : k < out.length, ahead out[k] o = false) : place out o = k := by
  unfold place
  induction out generalizing k with
  | nil => simp at hk; simp [hk]
  | cons x r ih =>
    cases k with
    | zero =>
      have := h2 (by simp)
      simp at this
      simp [this]
    | succ k =>
      have hx := h1 0 (by simp) (by omega)
      simp at hx
      simp only [List.takeWhile_cons, hx, if_true, List.length_cons]
      rw [ih (k := k) (by simpa using hk) (fun j h hj => h1 (j + 1) (by simpa using h) (by omega)) (fun h => h2 (by simpa using h))]
/-- One op more: none where another op has its stamp. -/
def addOne (s : List OpV × Int) (o : OpV) : Option (List OpV × Int) :=
  match s.1[place s.1 o]? with
  | some x => if stamp x o = true then (if sameOp x o = true then some s else none) else some (s.1.take (place s.1 o) ++ o :: s.1.drop (place s.1 o), s.2 + 1)
  | none => some (s.1.take (place s.1 o) ++ o :: s.1.drop (place s.1 o), s.2 + 1)
def addAll (s : List OpV × Int) : List OpV → Option (List OpV × Int)
  | [] => some s
  | o :: r => (addOne s o).bind fun s' => addAll s' r
theorem addAll_snoc (s : List OpV × Int) (l : List OpV) (o : OpV) : addAll s (l ++ [o]) = (addAll s l).bind fun s' => addOne s' o := by
  induction l generalizing s with
  | nil => show (addOne s o).bind (fun s' => some s') = addOne s o; cases addOne s o <;> rfl
  | cons x r ih =>
    show (addOne s x).bind (fun s' => addAll s' (r ++ [o])) = ((addOne s x).bind fun s' => addAll s' r).bind fun s' => addOne s' o
    cases addOne s x with
    | none => rfl
    | some s' => exact ih s'
theorem addAll_stuck (s : List OpV × Int) (l r : List OpV) (h : addAll s l = none) : addAll s (l ++ r) = none := by
  induction l generalizing s with
  | nil => cases h
  | cons x l ih =>
    have h' : (addOne s x).bind (fun s' => addAll s' l) = none := h
    show (addOne s x).bind (fun s' => addAll s' (l ++ r)) = none
    cases hx : addOne s x with
    | none => rfl
    | some s' => rw [hx] at h'; exact ih s' h'
theorem addOne_there {s : List OpV × Int} {o : OpV} {k : Nat} (hp : place s.1 o = k) (h : k < s.1.length) (hs : stamp s.1[k] o = true) (he : s.1[k] = o) : addOne s o = some s := by
  unfold addOne
  rw [hp, List.getElem?_eq_getElem h]
  show (if stamp s.1[k] o = true then (if sameOp s.1[k] o = true then some s else none) else _) = _
  rw [if_pos hs, if_pos (same_true he)]
theorem addOne_wrong {s : List OpV × Int} {o : OpV} {k : Nat} (hp : place s.1 o = k) (h : k < s.1.length) (hs : stamp s.1[k] o = true) (he : ¬ s.1[k] = o) : addOne s o = none := by
  unfold addOne
  rw [hp, List.getElem?_eq_getElem h]
  show (if stamp s.1[k] o = true then (if sameOp s.1[k] o = true then some s else none) else _) = _
  rw [if_pos hs, if_neg (fun e => he ((same_iff _ _).1 e))]
theorem addOne_new {s : List OpV × Int} {o : OpV} {k : Nat} (hp : place s.1 o = k) (h : ∀ h : k < s.1.length, stamp s.1[k] o = false) : addOne s o = some (s.1.take k ++ o :: s.1.drop k, s.2 + 1) := by
  unfold addOne
  rw [hp]
  cases hx : s.1[k]? with
  | none => rfl
  | some x =>
    obtain ⟨hk, rfl⟩ := List.getElem?_eq_some_iff.1 hx
    simp only [h hk]
    rfl
theorem addOne_len {s s' : List OpV × Int} {o : OpV} (h : addOne s o = some s') : s'.1.length ≤ s.1.length + 1 := by
  unfold addOne at h
  have hp := place_le s.1 o
  have hlen : (s.1.take (place s.1 o) ++ o :: s.1.drop (place s.1 o)).length = s.1.length + 1 := by simp; omega
  split at h
  · split at h
    · split at h
      · cases h; omega
      · cases h
    · cases h; exact Nat.le_of_eq hlen
  · cases h; exact Nat.le_of_eq hlen
end Go.Proofs.Ytlphcbgeagmopaa.OpR
