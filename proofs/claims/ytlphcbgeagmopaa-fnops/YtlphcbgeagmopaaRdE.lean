/- Plain mathematics of what OpsRead tells. -/
import Derived.Test.YtlphcbgeagmopaaRdM
namespace Go.Proofs.Ytlphcbgeagmopaa.OpR
set_option linter.unusedVariables false

/-- Where a reading of ops ends: nowhere, if the count is below 0. -/
def endSt (t : ByteArray) : Option Nat := if (rN t (some 0)).1 < 0 then none else (rAll t).2
theorem end_neg {t : ByteArray} {n : Int} {st : Option Nat} (h : rN t (some 0) = (n, st)) (hn : n < 0) : endSt t = none := by
  unfold endSt
  rw [h]; exact if_pos hn
theorem end_pos {t : ByteArray} {n : Int} {st : Option Nat} (h : rN t (some 0) = (n, st)) (hn : ¬ n < 0) : endSt t = (rAll t).2 := by
  unfold endSt
  rw [h]; exact if_neg hn
/-- What OpsRead tells: the ops, no number, the code. -/
def readRes (t : ByteArray) : List OpV × Int × Int := if 8000 < t.size then ([], 0, 2) else if opsBytes (rAll t).1 = t then ((rAll t).1, 0, 0) else ([], 0, 3)
theorem read_far {t : ByteArray} (h : 8000 < t.size) : readRes t = ([], 0, 2) := if_pos h
theorem read_yes {t : ByteArray} (h : ¬ 8000 < t.size) (h2 : opsBytes (rAll t).1 = t) : readRes t = ((rAll t).1, 0, 0) := (if_neg h).trans (if_pos h2)
theorem read_no {t : ByteArray} (h : ¬ 8000 < t.size) (h2 : ¬ opsBytes (rAll t).1 = t) : readRes t = ([], 0, 3) := (if_neg h).trans (if_neg h2)
theorem read_end {t : ByteArray} (ht : t.size ≤ 8000) : (endSt t = some t.size ∧ opsRight (rAll t).1 = true) ↔ opsBytes (rAll t).1 = t := by
  rw [← read_same t ht]
  unfold endSt
  by_cases h : (rN t (some 0)).1 < 0
  · rw [if_pos h]
    constructor
    · rintro ⟨h1, _⟩; cases h1
    · rintro ⟨_, h1, _⟩; omega
  · rw [if_neg h]
    constructor
    · rintro ⟨h1, h2⟩; exact ⟨h1, by omega, h2⟩
    · rintro ⟨h1, _, h2⟩; exact ⟨h1, h2⟩
theorem rT_size (t : ByteArray) (st : Option Nat) : (rT t st).1.size ≤ 8000 := by
  unfold rT
  split
  · exact Nat.zero_le 8000
  · split
    · exact Nat.zero_le 8000
    · rename_i x hx hc
      simp
      omega
theorem rLoop_sized {t : ByteArray} : ∀ (k : Nat) (l0 : List OpV) (st : Option Nat), (∀ o ∈ l0, o.name.size ≤ 8000 ∧ o.value.size ≤ 8000) → ∀ o ∈ (rLoop t k (l0, st)).1, o.name.size ≤ 8000 ∧ o.value.size ≤ 8000
  | 0, l0, st, h => h
  | k + 1, l0, none, h => h
  | k + 1, l0, some a, h => by
    refine rLoop_sized k _ _ fun o ho => ?_
    rcases List.mem_append.1 ho with ho | ho
    · exact h o ho
    · obtain rfl : o = (rOp t (some a)).1 := by simpa using ho
      exact ⟨rT_size t _, rT_size t _⟩
theorem rAll_sized (t : ByteArray) : ∀ o ∈ (rAll t).1, o.name.size ≤ 8000 ∧ o.value.size ≤ 8000 := rLoop_sized _ _ _ (fun o ho => absurd ho (by simp))
theorem rAll_len (t : ByteArray) : (rAll t).1.length ≤ t.size + 1 := by
  unfold rAll
  obtain ⟨⟨n, st⟩, hn⟩ : ∃ r, rN t (some 0) = r := ⟨_, rfl⟩
  rw [hn]
  refine rLoop_len n.toNat [] _ st _ rfl (fun a e => ?_) (by simp)
  subst e
  obtain ⟨a0, _, _, _, _, h3⟩ := rN_back hn
  exact ⟨by simp, h3⟩
end Go.Proofs.Ytlphcbgeagmopaa.OpR
