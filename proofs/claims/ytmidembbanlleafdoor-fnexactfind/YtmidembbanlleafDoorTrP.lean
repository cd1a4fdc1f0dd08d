/- Keys in order, and a prop set among props. Plain mathematics. -/
import Derived.Test.YtmidembbanlleafDoorMrgP
namespace Go.Proofs.YtmidembbanlleafDoor.OpR
set_option linter.unusedVariables false

theorem bl_irrefl : ∀ a : List UInt8, Op.bytesLess a a = false
  | [] => rfl
  | x :: a => by simp [Op.bytesLess, bl_irrefl a]
theorem bl_trans : ∀ {a b c : List UInt8}, Op.bytesLess a b = true → Op.bytesLess b c = true → Op.bytesLess a c = true
  | a, [], c, h, _ => by cases a <;> simp [Op.bytesLess] at h
  | a, b :: bs, [], _, h => by simp [Op.bytesLess] at h
  | [], b :: bs, c :: cs, _, _ => by simp [Op.bytesLess]
  | a :: aa, b :: bs, c :: cs, h1, h2 => by
    simp only [Op.bytesLess, Bool.or_eq_true, decide_eq_true_eq, Bool.and_eq_true, beq_iff_eq, UInt8.lt_iff_toNat_lt] at *
    rcases h1 with h1 | ⟨rfl, h1⟩ <;> rcases h2 with h2 | ⟨rfl, h2⟩
    · left; omega
    · left; exact h1
    · left; exact h2
    · right; exact ⟨rfl, bl_trans h1 h2⟩
theorem bl_tri : ∀ {a b : List UInt8}, Op.bytesLess a b = false → Op.bytesLess b a = false → a = b
  | [], [], _, _ => rfl
  | [], b :: bs, h, _ => by simp [Op.bytesLess] at h
  | a :: aa, [], _, h => by simp [Op.bytesLess] at h
  | a :: aa, b :: bs, h1, h2 => by
    simp only [Op.bytesLess, Bool.or_eq_false_iff, decide_eq_false_iff_not, Bool.and_eq_false_iff, beq_eq_false_iff_ne, UInt8.lt_iff_toNat_lt] at *
    have e : a = b := UInt8.toNat_inj.1 (by omega)
    subst e
    rw [bl_tri (h1.2.resolve_left (fun h => h rfl)) (h2.2.resolve_left (fun h => h rfl))]
theorem toList_inj {a b : ByteArray} (h : a.toList = b.toList) : a = b := by
  rw [ByteArray.toList_eq, ByteArray.toList_eq] at h
  exact ByteArray.ext (Array.toList_inj.1 h)
theorem kl_irrefl (a : ByteArray) : keyLt a a = false := bl_irrefl _
theorem kl_trans {a b c : ByteArray} (h1 : keyLt a b = true) (h2 : keyLt b c = true) : keyLt a c = true := bl_trans h1 h2
theorem kl_tri {a b : ByteArray} (h1 : keyLt a b = false) (h2 : keyLt b a = false) : a = b := toList_inj (bl_tri h1 h2)
theorem kl_asymm {a b : ByteArray} (h : keyLt a b = true) : keyLt b a = false := by
  cases e : keyLt b a with
  | false => rfl
  | true => have := kl_trans h e; rw [kl_irrefl] at this; cases this
/-- In order, no two alike. -/
def RiseP (l : List PropV) : Prop := l.Pairwise fun a b => keyLt a.key b.key = true
theorem rise_pair {l : List PropV} (h : ∀ i (h : i + 1 < l.length), keyLt l[i].key l[i + 1].key = true) : RiseP l := by
  rw [RiseP, List.pairwise_iff_getElem]
  intro i j hi hj hij
  induction hij with
  | refl => exact h i hj
  | step hm ih => exact kl_trans (ih (by omega)) (h _ hj)
theorem pair_rise {l : List PropV} (h : RiseP l) : ∀ i (h : i + 1 < l.length), keyLt l[i].key l[i + 1].key = true := fun i hi => List.pairwise_iff_getElem.1 h i (i + 1) (by omega) hi (by omega)
/-- A prop set: in its place, in the place of one of its key. -/
def setP (p : PropV) : List PropV → List PropV
  | [] => [p]
  | q :: r => if keyLt q.key p.key then q :: setP p r else if q.key = p.key then p :: r else p :: q :: r
def hasKey (l : List PropV) (k : ByteArray) : Bool := l.any fun q => decide (q.key = k)
theorem setP_len (p : PropV) : ∀ l : List PropV, RiseP l → (setP p l).length = if hasKey l p.key then l.length else l.length + 1
  | [], _ => by simp [setP, hasKey]
  | q :: r, h => by
    have hr := List.pairwise_cons.1 h
    unfold setP
    by_cases h1 : keyLt q.key p.key = true
    · have hne : ¬ q.key = p.key := fun e => by rw [e, kl_irrefl] at h1; cases h1
      have e : hasKey (q :: r) p.key = hasKey r p.key := by simp [hasKey, hne]
      rw [if_pos h1, List.length_cons, setP_len p r hr.2, e]
      split <;> rfl
    · rw [if_neg h1]
      by_cases h2 : q.key = p.key
      · simp [h2, hasKey]
      · rw [if_neg h2]
        have hno : hasKey (q :: r) p.key = false := by
          simp only [hasKey, List.any_cons, h2, decide_false, Bool.false_or]
          rw [List.any_eq_false]
          intro x hx
          simp only [decide_eq_true_eq]
          intro e
          have hqx := hr.1 x hx
          rw [e] at hqx
          exact h1 hqx
        simp [hno]
theorem setP_mem {p : PropV} : ∀ {l : List PropV} {x : PropV}, x ∈ setP p l → x = p ∨ x ∈ l
  | [], x, h => by simp [setP] at h; exact .inl h
  | q :: r, x, h => by
    unfold setP at h
    split at h
    · rcases List.mem_cons.1 h with rfl | h
      · exact .inr (by simp)
      · exact (setP_mem h).imp id (fun h => by simp [h])
    · split at h
      · rcases List.mem_cons.1 h with rfl | h
        · exact .inl rfl
        · exact .inr (by simp [h])
      · rcases List.mem_cons.1 h with rfl | h
        · exact .inl rfl
        · exact .inr h
theorem setP_rise {p : PropV} : ∀ {l : List PropV}, RiseP l → RiseP (setP p l)
  | [], _ => by simp [setP, RiseP]
  | q :: r, h => by
    have hr := List.pairwise_cons.1 h
    unfold setP
    by_cases h1 : keyLt q.key p.key = true
    · rw [if_pos h1]
      refine List.pairwise_cons.2 ⟨fun x hx => ?_, setP_rise hr.2⟩
      rcases setP_mem hx with rfl | hx
      · exact h1
      · exact hr.1 x hx
    · rw [if_neg h1]
      by_cases h2 : q.key = p.key
      · rw [if_pos h2]
        exact List.pairwise_cons.2 ⟨fun x hx => by rw [← h2]; exact hr.1 x hx, hr.2⟩
      · rw [if_neg h2]
        have hpq : keyLt p.key q.key = true := by
          cases e : keyLt p.key q.key with
          | true => rfl
          | false => exact absurd (kl_tri (by simpa using h1) e) h2
        refine List.pairwise_cons.2 ⟨fun x hx => ?_, h⟩
        rcases List.mem_cons.1 hx with rfl | hx
        · exact hpq
        · exact kl_trans hpq (hr.1 x hx)
/-- What impl's way makes of it. -/
theorem setP_mrg (p : PropV) : ∀ {l : List PropV}, RiseP l → mrgP (l.filter fun q => !decide (q.key = p.key)) [p] = setP p l
  | [], _ => by rw [List.filter_nil, mrgP_nil_left]; rfl
  | q :: r, h => by
    have hr := List.pairwise_cons.1 h
    unfold setP
    by_cases h1 : keyLt q.key p.key = true
    · have hne : ¬ q.key = p.key := fun e => by rw [e, kl_irrefl] at h1; cases h1
      rw [if_pos h1, List.filter_cons_of_pos (by simp [hne]), mrgP_left _ _ (show ltP p q = false from kl_asymm h1), setP_mrg p hr.2]
    · rw [if_neg h1]
      have hkeep : (r.filter fun x => !decide (x.key = p.key)) = r ∨ ¬ q.key = p.key := by
        by_cases h2 : q.key = p.key
        · left
          refine List.filter_eq_self.2 fun x hx => ?_
          have hqx := hr.1 x hx
          rw [h2] at hqx
          simp only [Bool.not_eq_true', decide_eq_false_iff_not]
          intro e
          rw [e, kl_irrefl] at hqx
          cases hqx
        · exact .inr h2
      by_cases h2 : q.key = p.key
      · rw [if_pos h2, List.filter_cons_of_neg (by simp [h2])]
        rcases hkeep with e | e
        · rw [e]
          cases r with
          | nil => rw [mrgP_nil_left]
          | cons y s =>
            have : keyLt p.key y.key = true := by rw [← h2]; exact hr.1 y (by simp)
            rw [mrgP_right _ _ (show ltP p y = true from this), mrgP_nil_right]
        · exact absurd h2 e
      · rw [if_neg h2, List.filter_cons_of_pos (by simp [h2])]
        have hpq : keyLt p.key q.key = true := by
          cases e : keyLt p.key q.key with
          | true => rfl
          | false => exact absurd (kl_tri (by simpa using h1) e) h2
        rw [mrgP_right _ _ (show ltP p q = true from hpq), mrgP_nil_right]
        congr 2
        refine List.filter_eq_self.2 fun x hx => ?_
        have hpx := kl_trans hpq (hr.1 x hx)
        simp only [Bool.not_eq_true', decide_eq_false_iff_not]
        intro e
        rw [e, kl_irrefl] at hpx
        cases hpx
/-- What spec's way makes of it: the place of the first key that isn't less. -/
def plP (p : PropV) : List PropV → Nat
  | [] => 0
  | q :: r => if keyLt q.key p.key then plP p r + 1 else 0
theorem setP_at (p : PropV) : ∀ (l : List PropV), setP p l = l.take (plP p l) ++ p :: l.drop (plP p l + if (l[plP p l]?.map fun q => decide (q.key = p.key)) = some true then 1 else 0)
  | [] => by simp [setP, plP]
  | q :: r => by
    unfold setP plP
    by_cases h1 : keyLt q.key p.key = true
    · have e : ∀ c, List.drop (plP p r + 1 + c) (q :: r) = List.drop (plP p r + c) r := fun c => by rw [Nat.add_right_comm, List.drop_succ_cons]
      rw [if_pos h1, if_pos h1, setP_at p r]
      simp only [List.getElem?_cons_succ, List.take_succ_cons, List.cons_append, e]
    · rw [if_neg h1, if_neg h1]
      by_cases h2 : q.key = p.key
      · simp [h2]
      · simp [h2]
theorem propsOk_set {l : List PropV} {p : PropV} (h : PropsOk l) (hp : propOk p = true) : propsOk (setP p l) = (hasKey l p.key || decide (l.length < 20)) := by
  have hr := rise_pair h.2.2
  have hl := setP_len p l hr
  have h20 := h.1
  by_cases hk : hasKey l p.key = true
  · rw [hk, Bool.true_or]
    rw [hk, if_pos rfl] at hl
    exact propsOk_yes ⟨by omega, fun x hx => by rcases setP_mem hx with rfl | hx; exact hp; exact h.2.1 x hx, pair_rise (setP_rise hr)⟩
  · have hk' : hasKey l p.key = false := by simpa using hk
    rw [hk', Bool.false_or]
    rw [hk'] at hl
    simp only [Bool.false_eq_true, if_false] at hl
    by_cases h2 : l.length < 20
    · rw [decide_eq_true h2]
      exact propsOk_yes ⟨by omega, fun x hx => by rcases setP_mem hx with rfl | hx; exact hp; exact h.2.1 x hx, pair_rise (setP_rise hr)⟩
    · rw [decide_eq_false h2]
      exact propsOk_no fun hh => by have := hh.1; omega
end Go.Proofs.YtmidembbanlleafDoor.OpR
