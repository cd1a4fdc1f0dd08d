/- What changes lie between rows. Plain mathematics. -/
import Derived.Test.YtmidembbanlleagMrgR
import Derived.Test.YtmidembbanlleagFlwM
namespace Go.Proofs.Ytmidembbanlleag.OpR
set_option linter.unusedVariables false

/-- The change of a row that went, and of one that came. -/
def wentC (a : PropV) : ChV := ⟨a.key, false, ⟨#[]⟩⟩
def cameC (b : PropV) : ChV := ⟨b.key, true, b.value⟩
/-- The row of a key, or none. -/
def rowAt (k : ByteArray) : List PropV → PropV
  | [] => PropV.zero
  | r :: l => if keyLt r.key k then rowAt k l else if r.key = k then r else PropV.zero
theorem rowAt_yes {k : ByteArray} : ∀ {l : List PropV} (h : thereK k l = true), rowAt k l = l[cutK k l]'(thereK_lt h)
  | [], h => by simp [thereK] at h
  | r :: l, h => by
    by_cases h1 : keyLt r.key k = true
    · have e : cutK k (r :: l) = cutK k l + 1 := by simp [cutK, h1]
      have h2 : thereK k l = true := by simpa [thereK, h1] using h
      simp only [rowAt, h1, if_true, e, List.getElem_cons_succ]
      exact rowAt_yes h2
    · have e : cutK k (r :: l) = 0 := by simp [cutK, h1]
      have h2 : r.key = k := by simpa [thereK, h1] using h
      simp only [rowAt, h1, e, List.getElem_cons_zero]
      simp [h2]
theorem rowAt_no {k : ByteArray} : ∀ {l : List PropV}, thereK k l = false → rowAt k l = PropV.zero
  | [], _ => rfl
  | r :: l, h => by
    by_cases h1 : keyLt r.key k = true
    · have h2 : thereK k l = false := by simpa [thereK, h1] using h
      simp only [rowAt, h1, if_true]
      exact rowAt_no h2
    · have h2 : ¬ r.key = k := by simpa [thereK, h1] using h
      simp [rowAt, h1, h2]
def eqR (a b : PropV) : Bool := decide (a.key = b.key) && decide (a.value = b.value)
theorem eqR_self (a : PropV) : eqR a a = true := by simp [eqR]
/-- Of a key: how it has changed. -/
def chK (was now : List PropV) (k : ByteArray) : List ChV :=
  if (thereK k was == thereK k now && eqR (rowAt k was) (rowAt k now)) = true then [] else [⟨k, thereK k now, (rowAt k now).value⟩]
/-- Each text but once, of those that stand side by side. -/
def dd : List ByteArray → List ByteArray
  | [] => []
  | [x] => [x]
  | x :: y :: r => if x = y then dd (y :: r) else x :: dd (y :: r)
theorem dd_cons {x : ByteArray} : ∀ {r : List ByteArray}, (∀ y ∈ r, y ≠ x) → dd (x :: r) = x :: dd r
  | [], _ => rfl
  | y :: r, h => by
    have := h y (by simp)
    rw [dd, if_neg (fun e => this e.symm)]
theorem dd_twice (x : ByteArray) (r : List ByteArray) : dd (x :: x :: r) = dd (x :: r) := by rw [dd, if_pos rfl]
theorem dd_mem : ∀ {l : List ByteArray} {x : ByteArray}, x ∈ dd l → x ∈ l
  | [], x, h => h
  | [y], x, h => h
  | y :: z :: r, x, h => by
    rw [dd] at h
    split at h
    · exact List.mem_cons_of_mem _ (dd_mem h)
    · rcases List.mem_cons.1 h with rfl | h
      · simp
      · exact List.mem_cons_of_mem _ (dd_mem h)
theorem dd_len : ∀ (l : List ByteArray), (dd l).length ≤ l.length
  | [] => Nat.le_refl _
  | [y] => Nat.le_refl _
  | y :: z :: r => by
    have := dd_len (z :: r)
    rw [dd]
    split
    · simp only [List.length_cons] at *; omega
    · simp only [List.length_cons] at *; omega
/-- The keys of rows of either list, each once. -/
def keysOf (was now : List PropV) : List ByteArray := dd ((mrgR was now).map PropV.key)
/-- What Changes answers of right rows. -/
def chgs (was now : List PropV) : List ChV := (keysOf was now).flatMap (chK was now)
/-- All keys are behind one. -/
def Ahead (k : ByteArray) (l : List PropV) : Prop := ∀ r ∈ l, keyLt k r.key = true
theorem Ahead.of {a : PropV} {l : List PropV} (h : RisesK (a :: l)) : Ahead a.key l := fun r hr => by
  obtain ⟨j, hj, rfl⟩ := List.getElem_of_mem hr
  have := h.lt 0 (j + 1) (by omega) (by simpa using hj)
  simpa using this
theorem Ahead.front {k : ByteArray} {b : PropV} {l : List PropV} (h : RisesK (b :: l)) (hk : keyLt k b.key = true) : Ahead k (b :: l) := fun r hr => by
  rcases List.mem_cons.1 hr with rfl | hr
  · exact hk
  · exact kr_trans hk (Ahead.of h r hr)
theorem Ahead.nil (k : ByteArray) : Ahead k [] := fun r hr => absurd hr (by simp)
theorem Ahead.mrg {k : ByteArray} {a b : List PropV} (ha : Ahead k a) (hb : Ahead k b) : ∀ x ∈ (mrgR a b).map PropV.key, keyLt k x = true := fun x hx => by
  obtain ⟨r, hr, rfl⟩ := List.mem_map.1 hx
  rcases List.mem_append.1 ((mrgR_perm a b).mem_iff.1 hr) with h | h
  · exact ha r h
  · exact hb r h
theorem Ahead.there {k : ByteArray} : ∀ {l : List PropV}, Ahead k l → thereK k l = false
  | [], _ => rfl
  | r :: l, h => by
    have h1 := h r (by simp)
    have h2 := kr_asymm h1
    have h3 : ¬ r.key = k := fun e => kr_ne h1 e.symm
    simp [thereK, h2, h3]
theorem head_there (a : PropV) (l : List PropV) : thereK a.key (a :: l) = true ∧ rowAt a.key (a :: l) = a := by
  simp [thereK, rowAt, kr_irrefl]
theorem skip_there {a : PropV} {l : List PropV} {k : ByteArray} (h : keyLt a.key k = true) : thereK k (a :: l) = thereK k l ∧ rowAt k (a :: l) = rowAt k l := by
  simp [thereK, rowAt, h]
theorem mrg_head_left {a : PropV} {was now : List PropV} (h : Ahead a.key now) : mrgR (a :: was) now = a :: mrgR was now := by
  cases now with
  | nil => rw [mrgR_nil_right, mrgR_nil_right]
  | cons b now => exact mrgR_left was now (kr_asymm (h b (by simp)))
theorem mrg_head_right {b : PropV} {was now : List PropV} (h : Ahead b.key was) : mrgR was (b :: now) = b :: mrgR was now := by
  cases was with
  | nil => rw [mrgR_nil_left, mrgR_nil_left]
  | cons a was => exact mrgR_right was now (h a (by simp))
theorem flat_same {was now was' now' : List PropV} {ks : List ByteArray} (h : ∀ k ∈ ks, chK was now k = chK was' now' k) : ks.flatMap (chK was now) = ks.flatMap (chK was' now') := by
  induction ks with
  | nil => rfl
  | cons k ks ih => rw [List.flatMap_cons, List.flatMap_cons, h k (by simp), ih (fun x hx => h x (by simp [hx]))]
theorem chgs_went {a : PropV} {was now : List PropV} (h1 : Ahead a.key was) (h2 : Ahead a.key now) : chgs (a :: was) now = wentC a :: chgs was now := by
  unfold chgs keysOf
  have hk := h1.mrg h2
  rw [mrg_head_left h2, List.map_cons, dd_cons (fun y hy => (kr_ne (hk y hy)).symm), List.flatMap_cons]
  have e1 : chK (a :: was) now a.key = [wentC a] := by
    unfold chK
    rw [h2.there, (head_there a was).1, rowAt_no h2.there, if_neg (by simp)]
    rfl
  rw [e1, flat_same (was' := was) (now' := now) (fun k hx => by
    have := skip_there (l := was) (hk k (dd_mem hx))
    unfold chK
    rw [this.1, this.2])]
  rfl
theorem chgs_came {b : PropV} {was now : List PropV} (h1 : Ahead b.key was) (h2 : Ahead b.key now) : chgs was (b :: now) = cameC b :: chgs was now := by
  unfold chgs keysOf
  have hk := h1.mrg h2
  rw [mrg_head_right h1, List.map_cons, dd_cons (fun y hy => (kr_ne (hk y hy)).symm), List.flatMap_cons]
  have e1 : chK was (b :: now) b.key = [cameC b] := by
    unfold chK
    rw [h1.there, (head_there b now).1, (head_there b now).2, if_neg (by simp)]
    rfl
  rw [e1, flat_same (was' := was) (now' := now) (fun k hx => by
    have := skip_there (l := now) (hk k (dd_mem hx))
    unfold chK
    rw [this.1, this.2])]
  rfl
def bothC (a b : PropV) : List ChV := if eqR a b = true then [] else [cameC b]
theorem chgs_both {a b : PropV} {was now : List PropV} (he : a.key = b.key) (h1 : Ahead a.key was) (h2 : Ahead b.key now) : chgs (a :: was) (b :: now) = bothC a b ++ chgs was now := by
  unfold chgs keysOf
  have hk := h1.mrg (he ▸ h2)
  have e0 : mrgR (a :: was) (b :: now) = a :: b :: mrgR was now := by
    rw [mrgR_left was now (by show keyLt b.key a.key = false; rw [he, kr_irrefl]), mrg_head_right (he ▸ h1)]
  rw [e0, List.map_cons, List.map_cons, ← he, dd_twice, dd_cons (fun y hy => (kr_ne (hk y hy)).symm), List.flatMap_cons]
  have e1 : chK (a :: was) (b :: now) a.key = bothC a b := by
    have hb := head_there b now
    rw [← he] at hb
    unfold chK bothC
    rw [(head_there a was).1, (head_there a was).2, hb.1, hb.2]
    by_cases h : eqR a b = true
    · rw [if_pos (by simp [h]), if_pos h]
    · rw [if_neg (by simp [h]), if_neg h]
      unfold cameC
      rw [he]
  rw [e1, flat_same (was' := was) (now' := now) (fun k hx => by
    have h3 := skip_there (l := was) (hk k (dd_mem hx))
    have h4 := skip_there (a := b) (l := now) (he ▸ hk k (dd_mem hx))
    unfold chK
    rw [h3.1, h3.2, h4.1, h4.2])]
theorem chgs_nil : chgs [] [] = [] := by simp [chgs, keysOf, mrgR_nil_left, dd]
theorem keysOf_len (was now : List PropV) : (keysOf was now).length ≤ was.length + now.length := by
  unfold keysOf
  have := dd_len ((mrgR was now).map PropV.key)
  rwa [List.length_map, mrgR_len] at this
theorem chK_len (was now : List PropV) (k : ByteArray) : (chK was now k).length ≤ 1 := by unfold chK; split <;> simp
theorem flatK_len (was now : List PropV) : ∀ ks : List ByteArray, (ks.flatMap (chK was now)).length ≤ ks.length
  | [] => by simp
  | k :: ks => by
    have h1 := chK_len was now k
    have h2 := flatK_len was now ks
    rw [List.flatMap_cons, List.length_append, List.length_cons]
    omega
theorem chgs_len (was now : List PropV) : (chgs was now).length ≤ was.length + now.length := Nat.le_trans (flatK_len was now _) (keysOf_len was now)
/-- What Changes answers. -/
def changesRes (was now : List PropV) : List ChV := if rowsRight was = true ∧ rowsRight now = true then chgs was now else []
theorem changes_yes {was now : List PropV} (h1 : rowsRight was = true) (h2 : rowsRight now = true) : changesRes was now = chgs was now := by unfold changesRes; rw [if_pos ⟨h1, h2⟩]
theorem changes_no {was now : List PropV} (h : ¬ (rowsRight was = true ∧ rowsRight now = true)) : changesRes was now = [] := by unfold changesRes; rw [if_neg h]
theorem changes_len (was now : List PropV) : (changesRes was now).length ≤ 300 := by
  unfold changesRes
  split
  · rename_i h
    have h1 := ((rowsRight_iff was).1 h.1).1
    have h2 := ((rowsRight_iff now).1 h.2).1
    have := chgs_len was now
    omega
  · simp
/-- One step more of spec's way. -/
theorem schg_went {out tot : List ChV} {was now : List PropV} {i k : Nat} (hR : RisesK was) (hRn : RisesK now) (hi : i < was.length) (h : ∀ hk : k < now.length, keyLt was[i].key now[k].key = true) (hM : out ++ chgs (was.drop i) (now.drop k) = tot) : (out ++ [wentC was[i]]) ++ chgs (was.drop (i + 1)) (now.drop k) = tot := by
  have h1 : Ahead was[i].key (was.drop (i + 1)) := Ahead.of (by rw [← List.drop_eq_getElem_cons hi]; exact hR.drop i)
  have h2 : Ahead was[i].key (now.drop k) := by
    by_cases hk : k < now.length
    · rw [List.drop_eq_getElem_cons hk]
      exact Ahead.front (by rw [← List.drop_eq_getElem_cons hk]; exact hRn.drop k) (h hk)
    · rw [List.drop_of_length_le (by omega)]
      exact Ahead.nil _
  rw [← hM, List.drop_eq_getElem_cons hi, chgs_went h1 h2]; simp
theorem schg_came {out tot : List ChV} {was now : List PropV} {i k : Nat} (hR : RisesK was) (hRn : RisesK now) (hk : k < now.length) (h : ∀ hi : i < was.length, keyLt now[k].key was[i].key = true) (hM : out ++ chgs (was.drop i) (now.drop k) = tot) : (out ++ [cameC now[k]]) ++ chgs (was.drop i) (now.drop (k + 1)) = tot := by
  have h1 : Ahead now[k].key (now.drop (k + 1)) := Ahead.of (by rw [← List.drop_eq_getElem_cons hk]; exact hRn.drop k)
  have h2 : Ahead now[k].key (was.drop i) := by
    by_cases hi : i < was.length
    · rw [List.drop_eq_getElem_cons hi]
      exact Ahead.front (by rw [← List.drop_eq_getElem_cons hi]; exact hR.drop i) (h hi)
    · rw [List.drop_of_length_le (by omega)]
      exact Ahead.nil _
  rw [← hM, List.drop_eq_getElem_cons hk, chgs_came h2 h1]; simp
theorem schg_both {out tot : List ChV} {was now : List PropV} {i k : Nat} (hR : RisesK was) (hRn : RisesK now) (hi : i < was.length) (hk : k < now.length) (he : was[i].key = now[k].key) (hM : out ++ chgs (was.drop i) (now.drop k) = tot) : (out ++ bothC was[i] now[k]) ++ chgs (was.drop (i + 1)) (now.drop (k + 1)) = tot := by
  have h1 : Ahead was[i].key (was.drop (i + 1)) := Ahead.of (by rw [← List.drop_eq_getElem_cons hi]; exact hR.drop i)
  have h2 : Ahead now[k].key (now.drop (k + 1)) := Ahead.of (by rw [← List.drop_eq_getElem_cons hk]; exact hRn.drop k)
  rw [← hM, List.drop_eq_getElem_cons hi, List.drop_eq_getElem_cons hk, chgs_both he h1 h2]; simp
end Go.Proofs.Ytmidembbanlleag.OpR
