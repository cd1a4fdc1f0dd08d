/- What changes make of rows, and where a key stands among rows. Plain mathematics. -/
import Derived.Test.YtmidembbanlleagRwR
import Derived.Test.YtmidembbanlleagChM
namespace Go.Proofs.Ytmidembbanlleag.OpR
set_option linter.unusedVariables false

theorem rbl_trans : ∀ {a b c : List UInt8}, Op.bytesLess a b = true → Op.bytesLess b c = true → Op.bytesLess a c = true
  | a, [], c, h, _ => by cases a <;> simp [Op.bytesLess] at h
  | a, b :: bs, [], _, h => by simp [Op.bytesLess] at h
  | [], b :: bs, c :: cs, _, _ => by simp [Op.bytesLess]
  | a :: aa, b :: bs, c :: cs, h1, h2 => by
    simp only [Op.bytesLess, Bool.or_eq_true, decide_eq_true_eq, Bool.and_eq_true, beq_iff_eq, UInt8.lt_iff_toNat_lt] at *
    rcases h1 with h1 | ⟨rfl, h1⟩ <;> rcases h2 with h2 | ⟨rfl, h2⟩
    · left; omega
    · left; exact h1
    · left; exact h2
    · right; exact ⟨rfl, rbl_trans h1 h2⟩
theorem kr_irrefl (a : ByteArray) : keyLt a a = false := rbl_irrefl _
theorem kr_trans {a b c : ByteArray} (h1 : keyLt a b = true) (h2 : keyLt b c = true) : keyLt a c = true := rbl_trans h1 h2
theorem kr_tri {a b : ByteArray} (h1 : keyLt a b = false) (h2 : keyLt b a = false) : a = b := toListR_inj (rbl_tri h1 h2)
theorem kr_asymm {a b : ByteArray} (h : keyLt a b = true) : keyLt b a = false := rbl_asymm h
theorem kr_ne {a b : ByteArray} (h : keyLt a b = true) : a ≠ b := fun e => by rw [e, kr_irrefl] at h; cases h

/-- In order, no two alike. -/
def RisesK (l : List PropV) : Prop := ∀ i (h : i + 1 < l.length), keyLt l[i].key l[i + 1].key = true
theorem RisesK.lt {l : List PropV} (h : RisesK l) : ∀ i j (hij : i < j) (hj : j < l.length), keyLt l[i].key l[j].key = true := by
  intro i j hij hj
  induction hij with
  | refl => exact h i hj
  | step hm ih => exact kr_trans (ih (by omega)) (h _ hj)
theorem RisesK.drop {l : List PropV} (h : RisesK l) (k : Nat) : RisesK (l.drop k) := fun i hi => by
  have hi' : k + i + 1 < l.length := by rw [List.length_drop] at hi; omega
  have := h (k + i) hi'
  simpa [List.getElem_drop, Nat.add_assoc] using this
/-- How many rows stand ahead of a key. -/
def cutK (k : ByteArray) : List PropV → Nat
  | [] => 0
  | r :: l => if keyLt r.key k then cutK k l + 1 else 0
def thereK (k : ByteArray) : List PropV → Bool
  | [] => false
  | r :: l => if keyLt r.key k then thereK k l else decide (r.key = k)
theorem cutK_le (k : ByteArray) : ∀ l : List PropV, cutK k l ≤ l.length
  | [] => Nat.le_refl _
  | r :: l => by
    have := cutK_le k l
    simp only [cutK, List.length_cons]
    split <;> omega
theorem cutK_is {k : ByteArray} : ∀ {l : List PropV} {i : Nat}, i ≤ l.length → (∀ t (h : t < l.length), t < i → keyLt l[t].key k = true) → (∀ h : i < l.length, keyLt l[i].key k = false) → cutK k l = i
  | [], i, hi, _, _ => by simp at hi; simp [cutK, hi]
  | r :: l, 0, _, _, h2 => by
    have := h2 (by simp)
    simp only [List.getElem_cons_zero] at this
    simp [cutK, this]
  | r :: l, i + 1, hi, h1, h2 => by
    have h0 := h1 0 (by simp) (by omega)
    simp only [List.getElem_cons_zero] at h0
    have ih := cutK_is (k := k) (l := l) (i := i) (by simpa using hi) (fun t h ht => h1 (t + 1) (by simpa using h) (by omega)) (fun h => h2 (by simpa using h))
    simp [cutK, h0, ih]
theorem thereK_at (k : ByteArray) : ∀ l : List PropV, thereK k l = if h : cutK k l < l.length then decide (l[cutK k l].key = k) else false
  | [] => by simp [thereK]
  | r :: l => by
    have ih := thereK_at k l
    by_cases h : keyLt r.key k = true
    · have e : cutK k (r :: l) = cutK k l + 1 := by simp [cutK, h]
      simp only [thereK, h, if_true, ih, e, List.length_cons, Nat.add_lt_add_iff_right, List.getElem_cons_succ]
    · have e : cutK k (r :: l) = 0 := by simp [cutK, h]
      simp [thereK, h, e]
theorem thereK_yes {k : ByteArray} {l : List PropV} {i : Nat} (hc : cutK k l = i) (h : i < l.length) (he : l[i].key = k) : thereK k l = true := by
  subst hc
  rw [thereK_at, dif_pos h]
  exact decide_eq_true he
theorem thereK_no {k : ByteArray} {l : List PropV} {i : Nat} (hc : cutK k l = i) (he : ∀ h : i < l.length, ¬ l[i].key = k) : thereK k l = false := by
  subst hc
  rw [thereK_at]
  split
  · rename_i h
    exact decide_eq_false (he h)
  · rfl
theorem thereK_lt {k : ByteArray} {l : List PropV} (h : thereK k l = true) : cutK k l < l.length := by
  rw [thereK_at] at h
  split at h
  · assumption
  · cases h
/-- The row that a change brings. -/
def rowC (c : ChV) : List PropV := if c.has then [⟨c.key, c.now⟩] else []
theorem rowC_yes {c : ChV} (h : c.has = true) : rowC c = [⟨c.key, c.now⟩] := by simp [rowC, h]
theorem rowC_no {c : ChV} (h : c.has = false) : rowC c = [] := by simp [rowC, h]
def restK (k : ByteArray) (l : List PropV) : List PropV := l.drop (cutK k l + (thereK k l).toNat)
def flw : List ChV → List PropV → List PropV
  | [], was => was
  | c :: cs, was => was.take (cutK c.key was) ++ (rowC c ++ flw cs (restK c.key was))
theorem flw_lt {r : PropV} {was : List PropV} {c : ChV} {cs : List ChV} (h : keyLt r.key c.key = true) : flw (c :: cs) (r :: was) = r :: flw (c :: cs) was := by
  have e1 : cutK c.key (r :: was) = cutK c.key was + 1 := by simp [cutK, h]
  have e2 : thereK c.key (r :: was) = thereK c.key was := by simp [thereK, h]
  simp only [flw, restK, e1, e2, List.take_succ_cons, List.cons_append]
  rw [show cutK c.key was + 1 + (thereK c.key was).toNat = (cutK c.key was + (thereK c.key was).toNat) + 1 by omega, List.drop_succ_cons]
theorem flw_eq {r : PropV} {was : List PropV} {c : ChV} {cs : List ChV} (h : keyLt r.key c.key = false) (he : r.key = c.key) : flw (c :: cs) (r :: was) = rowC c ++ flw cs was := by
  have e1 : cutK c.key (r :: was) = 0 := by simp [cutK, h]
  have e2 : thereK c.key (r :: was) = true := by rw [thereK, h]; simp [he]
  simp [flw, restK, e1, e2]
theorem flw_ne {r : PropV} {was : List PropV} {c : ChV} {cs : List ChV} (h : keyLt r.key c.key = false) (he : ¬ r.key = c.key) : flw (c :: cs) (r :: was) = rowC c ++ flw cs (r :: was) := by
  have e1 : cutK c.key (r :: was) = 0 := by simp [cutK, h]
  have e2 : thereK c.key (r :: was) = false := by simp [thereK, h, he]
  simp [flw, restK, e1, e2]
theorem flw_none (c : ChV) (cs : List ChV) : flw (c :: cs) [] = rowC c ++ flw cs [] := by simp [flw, restK, cutK, thereK]
theorem rowC_len (c : ChV) : (rowC c).length ≤ 1 := by unfold rowC; split <;> simp
theorem flw_len : ∀ (cs : List ChV) (was : List PropV), (flw cs was).length ≤ was.length + cs.length
  | [], was => by simp [flw]
  | c :: cs, was => by
    have ih := flw_len cs (restK c.key was)
    have h1 := rowC_len c
    have h2 := cutK_le c.key was
    have h3 : (restK c.key was).length = was.length - (cutK c.key was + (thereK c.key was).toNat) := by simp [restK]
    simp only [flw, List.length_append, List.length_take, List.length_cons]
    omega
def chRise (l : List ChV) (i : Nat) : Bool := if h : i + 1 < l.length then keyLt l[i].key l[i + 1].key else true
theorem chRise_iff (l : List ChV) : allTo l.length (chRise l) = true ↔ ∀ i (h : i + 1 < l.length), keyLt l[i].key l[i + 1].key = true := by
  rw [allTo_iff]
  constructor
  · intro h i hi
    have h1 := h i (by omega)
    unfold chRise at h1
    rwa [dif_pos hi] at h1
  · intro h i hi
    unfold chRise
    by_cases h1 : i + 1 < l.length
    · rw [dif_pos h1]; exact h i h1
    · rw [dif_neg h1]
/-- What Follow answers. -/
def followRes (was : List PropV) (l : List ChV) : List PropV :=
  if l.length ≤ 400 ∧ rowsRight was = true ∧ allTo l.length (chRise l) = true ∧ (flw l was).length ≤ 150 then flw l was else []
theorem follow_yes {was : List PropV} {l : List ChV} (h1 : l.length ≤ 400) (h2 : rowsRight was = true) (h3 : allTo l.length (chRise l) = true) (h4 : (flw l was).length ≤ 150) : followRes was l = flw l was := by
  unfold followRes; rw [if_pos ⟨h1, h2, h3, h4⟩]
theorem follow_no {was : List PropV} {l : List ChV} (h : ¬ (l.length ≤ 400 ∧ rowsRight was = true ∧ allTo l.length (chRise l) = true ∧ (flw l was).length ≤ 150)) : followRes was l = [] := by
  unfold followRes; rw [if_neg h]
theorem follow_len (was : List PropV) (l : List ChV) : (followRes was l).length ≤ 150 := by
  unfold followRes
  split
  · rename_i h; exact h.2.2.2
  · simp
end Go.Proofs.Ytmidembbanlleag.OpR
