/- Ways up, parent by parent: how long they are, and what becomes of them when one node is put elsewhere. Plain mathematics. -/
import Derived.Test.YtmidembbanlleafDoorTrM
namespace Go.Proofs.YtmidembbanlleafDoor.OpR

set_option linter.unusedVariables false

theorem ends_step {f : Int → Option Int} {k : Nat} {x y : Int} (h0 : x ≠ 0) (h1 : x ≠ 1) (h : f x = some y) : endsF f (k + 1) x = endsF f k y := by
  simp [endsF, h0, h1, h]
theorem ends_stop {f : Int → Option Int} {k : Nat} {x : Int} (h0 : x ≠ 0) (h1 : x ≠ 1) (h : f x = none) : endsF f k x = false := by
  cases k <;> simp [endsF, h0, h1, h]
theorem ends_low {f : Int → Option Int} {k : Nat} {x : Int} (h : x = 0 ∨ x = 1) : endsF f (k + 1) x = true := by
  simp [endsF, h]
theorem ends_cases {f : Int → Option Int} {k : Nat} {x : Int} (h : endsF f k x = true) : ∃ j, k = j + 1 ∧ ((x = 0 ∨ x = 1) ∨ (x ≠ 0 ∧ x ≠ 1 ∧ ∃ y, f x = some y ∧ endsF f j y = true)) := by
  cases k with
  | zero => simp [endsF] at h
  | succ j =>
    refine ⟨j, rfl, ?_⟩
    by_cases hx : x = 0 ∨ x = 1
    · exact .inl hx
    · refine .inr ⟨fun e => hx (.inl e), fun e => hx (.inr e), ?_⟩
      cases hf : f x with
      | none => rw [ends_stop (fun e => hx (.inl e)) (fun e => hx (.inr e)) hf] at h; cases h
      | some y => exact ⟨y, rfl, by rwa [ends_step (fun e => hx (.inl e)) (fun e => hx (.inr e)) hf] at h⟩
theorem ends_mono {f : Int → Option Int} : ∀ {k j : Nat} {x : Int}, k ≤ j → endsF f k x = true → endsF f j x = true := by
  intro k
  induction k with
  | zero => intro j x _ h; simp [endsF] at h
  | succ k ih =>
    intro j x hj h
    obtain ⟨j, rfl⟩ : ∃ i, j = i + 1 := ⟨j - 1, by omega⟩
    obtain ⟨_, e, hc⟩ := ends_cases h
    rcases hc with hx | ⟨h0, h1, y, hy, hk⟩
    · exact ends_low hx
    · rw [ends_step h0 h1 hy]
      obtain rfl := Nat.succ.inj e
      exact ih (by omega) hk
/-- Another way up that parts from this one at most where this one doesn't come. -/
theorem ends_away {f g : Int → Option Int} {x : Int} (hfg : ∀ z, z ≠ x → f z = g z) : ∀ {k : Nat} {p : Int}, abF f x k p = false → endsF f k p = true → endsF g k p = true := by
  intro k
  induction k with
  | zero => intro p _ h; simp [endsF] at h
  | succ k ih =>
    intro p ha h
    have hpx : p ≠ x := fun e => by simp [abF, e] at ha
    obtain ⟨_, e, hc⟩ := ends_cases h
    obtain rfl := Nat.succ.inj e
    rcases hc with hx | ⟨h0, h1, y, hy, hk⟩
    · exact ends_low hx
    · rw [ends_step h0 h1 (show g p = some y by rw [← hfg p hpx]; exact hy)]
      refine ih ?_ hk
      simpa [abF, hpx, hy] using ha
/-- A way that meets x goes on from x. -/
theorem ends_meets {f : Int → Option Int} (h0 : f 0 = none) (h1 : f 1 = none) {x : Int} : ∀ {k : Nat} {p : Int}, abF f x k p = true → ∀ j, endsF f j p = true → ∃ i, i ≤ j ∧ endsF f i x = true := by
  intro k
  induction k with
  | zero => intro p ha; simp [abF] at ha
  | succ k ih =>
    intro p ha j h
    by_cases hpx : p = x
    · subst hpx; exact ⟨j, Nat.le_refl _, h⟩
    · obtain ⟨i, rfl, hc⟩ := ends_cases h
      rcases hc with hx | ⟨hp0, hp1, y, hy, hk⟩
      · have hn : f p = none := by rcases hx with rfl | rfl <;> assumption
        simp [abF, hpx, hn] at ha
      · have ha' : abF f x k y = true := by simpa [abF, hpx, hy] using ha
        obtain ⟨i', hi, he⟩ := ih ha' i hk
        exact ⟨i', by omega, he⟩
theorem ab_same {f g : Int → Option Int} {x : Int} (hfg : ∀ z, z ≠ x → f z = g z) : ∀ (k : Nat) (p : Int), abF f x k p = abF g x k p
  | 0, _ => rfl
  | k + 1, p => by
    unfold abF
    by_cases hpx : p = x
    · simp [hpx]
    · rw [if_neg hpx, if_neg hpx, hfg p hpx]
      cases g p with
      | none => rfl
      | some y => exact ab_same hfg k y
/-- A way that ends has an end as near as may be. -/
theorem ends_least {f : Int → Option Int} {x : Int} : ∀ {k : Nat}, endsF f k x = true → ∃ j, j ≤ k ∧ endsF f j x = true ∧ ∀ i, i < j → endsF f i x = false := by
  intro k
  induction k with
  | zero => intro h; simp [endsF] at h
  | succ k ih =>
    intro h
    cases e : endsF f k x with
    | true => obtain ⟨j, hj, h1, h2⟩ := ih e; exact ⟨j, by omega, h1, h2⟩
    | false =>
      refine ⟨k + 1, Nat.le_refl _, h, fun i hi => ?_⟩
      cases e' : endsF f i x with
      | false => rfl
      | true => rw [ends_mono (by omega) e'] at e; cases e
theorem filter_less (x : Int) : ∀ (l : List Int), x ∈ l → (l.filter fun z => decide (z ≠ x)).length < l.length := by
  intro l hx
  have := List.length_filter_lt_length_iff_exists (p := fun z => decide (z ≠ x)) (l := l)
  exact this.2 ⟨x, hx, by simp⟩
/-- A way up that ends has no more steps than there are numbers with a parent, and one. -/
theorem ends_short : ∀ (n : Nat) (f : Int → Option Int) (dom : List Int), dom.length ≤ n → (∀ z y, f z = some y → z ∈ dom) → f 0 = none → f 1 = none → ∀ {k : Nat} {x : Int}, endsF f k x = true → endsF f (n + 1) x = true := by
  intro n
  induction n with
  | zero =>
    intro f dom hl hd h0 h1 k x h
    obtain ⟨_, _, hx | ⟨_, _, y, hy, _⟩⟩ := ends_cases h
    · exact ends_low hx
    · have := hd _ _ hy
      rw [List.eq_nil_of_length_eq_zero (Nat.le_zero.1 hl)] at this
      cases this
  | succ n ih =>
    intro f dom hl hd h0 h1 k x h
    obtain ⟨j, _, hj, hleast⟩ := ends_least h
    obtain ⟨i, rfl, hx | ⟨hx0, hx1, y, hy, hk⟩⟩ := ends_cases hj
    · exact ends_low hx
    · rw [ends_step hx0 hx1 hy]
      have hav : abF f x i y = false := by
        cases e : abF f x i y with
        | false => rfl
        | true =>
          obtain ⟨i', hi', he⟩ := ends_meets h0 h1 e i hk
          rw [hleast i' (by omega)] at he
          cases he
      have hfg : ∀ z, z ≠ x → f z = (fun z => if z = x then none else f z) z := fun z hz => by simp [hz]
      have hg := ih (fun z => if z = x then none else f z) (dom.filter fun z => decide (z ≠ x)) (by have := filter_less x dom (hd _ _ hy); omega)
        (fun z y' hz => by
          by_cases e : z = x
          · simp [e] at hz
          · simp only [e, if_false] at hz
            exact List.mem_filter.2 ⟨hd _ _ hz, by simpa using e⟩) (by simp only [h0]; split <;> rfl) (by simp only [h1]; split <;> rfl) (ends_away hfg hav hk)
      have hback : abF (fun z => if z = x then none else f z) x (n + 1) y = false := by
        rw [← ab_same hfg]
        cases e : abF f x (n + 1) y with
        | false => rfl
        | true =>
          obtain ⟨i', hi', he⟩ := ends_meets h0 h1 e i hk
          rw [hleast i' (by omega)] at he
          cases he
      exact ends_away (fun z hz => (hfg z hz).symm) hback hg
/-- A node put below p: from it on the way ends just if p is a place, and p doesn't lie below it. -/
theorem moved_ends {f g : Int → Option Int} {x p : Int} (hx0 : x ≠ 0) (hx1 : x ≠ 1) (h0 : f 0 = none) (h1 : f 1 = none) (hfg : ∀ z, z ≠ x → f z = g z) (hgx : g x = some p) {k : Nat} (hp : endsF f k p = true) (hav : abF f x k p = false) : endsF g (k + 1) x = true := by
  rw [ends_step hx0 hx1 hgx]
  exact ends_away hfg hav hp
theorem moved_loop {f g : Int → Option Int} {x p : Int} (hx0 : x ≠ 0) (hx1 : x ≠ 1) (h0 : f 0 = none) (h1 : f 1 = none) (hfg : ∀ z, z ≠ x → f z = g z) (hgx : g x = some p) {k : Nat} (hav : abF f x k p = true) : ∀ j, endsF g j x = false := by
  intro j
  induction j using Nat.strongRecOn with
  | _ j ih =>
    cases e : endsF g j x with
    | false => rfl
    | true =>
      obtain ⟨i, rfl, hx | ⟨_, _, y, hy, hk⟩⟩ := ends_cases e
      · rcases hx with h | h
        · exact absurd h hx0
        · exact absurd h hx1
      · rw [hgx] at hy
        cases hy
        have hg0 : g 0 = none := by rw [← hfg 0 (fun e => hx0 e.symm)]; exact h0
        have hg1 : g 1 = none := by rw [← hfg 1 (fun e => hx1 e.symm)]; exact h1
        obtain ⟨i', hi', he⟩ := ends_meets hg0 hg1 (by rw [← ab_same hfg]; exact hav) i hk
        rw [ih i' (by omega)] at he
        cases he
theorem moved_none {g : Int → Option Int} {x p : Int} (hx0 : x ≠ 0) (hx1 : x ≠ 1) (hgx : g x = some p) (hp0 : p ≠ 0) (hp1 : p ≠ 1) (hgp : g p = none) (j : Nat) : endsF g j x = false := by
  cases j with
  | zero => rfl
  | succ j => rw [ends_step hx0 hx1 hgx, ends_stop hp0 hp1 hgp]
end Go.Proofs.YtmidembbanlleafDoor.OpR
