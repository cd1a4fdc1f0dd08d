/- Plain mathematics of ops in order: a merge of two ordered rows, one op of each stamp, and what is put to a log. -/
import Derived.Test.YtlphcbgeagmopaaAddM
namespace Go.Proofs.Ytlphcbgeagmopaa.OpR
set_option linter.unusedVariables false

theorem ahead_iff (a b : OpV) : ahead a b = true ↔ a.time < b.time ∨ (a.time = b.time ∧ a.repl < b.repl) := by simp [ahead]
theorem stamp_iff (a b : OpV) : stamp a b = true ↔ a.time = b.time ∧ a.repl = b.repl := by simp [stamp]
theorem ahead_trans {a b c : OpV} (h1 : ahead a b = true) (h2 : ahead b c = true) : ahead a c = true := by
  rw [ahead_iff] at *; omega
theorem ahead_irrefl (a : OpV) : ahead a a = false := by
  refine Bool.eq_false_iff.2 fun h => ?_
  rw [ahead_iff] at h; omega
theorem ahead_asymm {a b : OpV} (h : ahead a b = true) : ahead b a = false := by
  refine Bool.eq_false_iff.2 fun h' => ?_
  rw [ahead_iff] at *; omega
theorem ahead_tri {a b : OpV} (h1 : ahead a b = false) (h2 : ahead b a = false) : stamp a b = true := by
  rw [Bool.eq_false_iff, Ne, ahead_iff] at h1 h2
  rw [stamp_iff]; omega
theorem stamp_no {a b : OpV} (h : ahead a b = true) : stamp a b = false := by
  refine Bool.eq_false_iff.2 fun h' => ?_
  rw [ahead_iff] at h; rw [stamp_iff] at h'; omega
theorem stamp_symm (a b : OpV) : stamp a b = stamp b a := by
  rw [Bool.eq_iff_iff, stamp_iff, stamp_iff]; omega
theorem stamp_self (a : OpV) : stamp a a = true := by rw [stamp_iff]; exact ⟨rfl, rfl⟩

def leq (a b : OpV) : Bool := !ahead b a
def Orderd (l : List OpV) : Prop := l.Pairwise (fun a b => leq a b = true)
def Strict (l : List OpV) : Prop := l.Pairwise (fun a b => ahead a b = true)
theorem leq_iff (a b : OpV) : leq a b = true ↔ ahead b a = false := by simp [leq]
theorem leq_trans (a b c : OpV) (h1 : leq a b = true) (h2 : leq b c = true) : leq a c = true := by
  rw [leq_iff, Bool.eq_false_iff, Ne, ahead_iff] at *; omega
theorem leq_total (a b : OpV) : (leq a b || leq b a) = true := by
  cases h : leq a b
  · have : ahead b a = true := by simpa [leq] using h
    simp [leq, ahead_asymm this]
  · rfl
theorem rises_strict {l : List OpV} (h : Rises l) : Strict l := by
  refine List.pairwise_iff_getElem.2 fun i j hi hj hij => ?_
  have key : ∀ d i (hd : i + d + 1 < l.length), ahead l[i] l[i + d + 1] = true := by
    intro d
    induction d with
    | zero => intro i hd; exact h i hd
    | succ d ih => intro i hd; exact ahead_trans (ih i (by omega)) (h (i + d + 1) hd)
  have h2 := key (j - i - 1) i (by omega)
  have e : i + (j - i - 1) + 1 = j := by omega
  simpa only [e] using h2
theorem strict_rises {l : List OpV} (h : Strict l) : Rises l := fun i hi => List.pairwise_iff_getElem.1 h i (i + 1) (by omega) hi (by omega)
theorem pw_map {R S : OpV → OpV → Prop} {l : List OpV} (h : l.Pairwise R) (hRS : ∀ a b, R a b → S a b) : l.Pairwise S :=
  List.pairwise_iff_getElem.2 fun i j hi hj hij => hRS _ _ (List.pairwise_iff_getElem.1 h i j hi hj hij)
theorem strict_ord {l : List OpV} (h : Strict l) : Orderd l := pw_map h fun a b hab => (leq_iff a b).2 (ahead_asymm hab)
/-- No two of one stamp. -/
def Apart (l : List OpV) : Prop := l.Pairwise (fun a b => stamp a b = false)
theorem strict_apart {l : List OpV} (h : Strict l) : Apart l := pw_map h fun a b hab => stamp_no hab
theorem apart_strict {l : List OpV} (h : Orderd l) (h2 : Apart l) : Strict l := by
  refine List.pairwise_iff_getElem.2 fun i j hi hj hij => ?_
  have h1 := List.pairwise_iff_getElem.1 h i j hi hj hij
  have h2 := List.pairwise_iff_getElem.1 h2 i j hi hj hij
  obtain ⟨a, ea⟩ : ∃ a, a = l[i] := ⟨_, rfl⟩
  obtain ⟨b, eb⟩ : ∃ b, b = l[j] := ⟨_, rfl⟩
  rw [← ea, ← eb] at h1 h2 ⊢
  rw [leq_iff] at h1
  cases ha : ahead a b
  · rw [ahead_tri ha h1] at h2; cases h2
  · rfl
theorem apart_perm {l m : List OpV} (h : l.Perm m) : Apart l ↔ Apart m := h.pairwise_iff (fun {a b} hab => by rw [stamp_symm]; exact hab)
theorem apart_iff (l : List OpV) : Apart l ↔ ∀ i k (h : i < l.length) (hk : k < i), stamp l[k] l[i] = false :=
  ⟨fun h i k hi hk => List.pairwise_iff_getElem.1 h k i (by omega) hi hk, fun h => List.pairwise_iff_getElem.2 fun i j hi hj hij => h j i hj hij⟩
/-- What impl asks of a list of ops. -/
theorem opsR_iff {l s : List OpV} (hp : s.Perm l) (ho : Orderd s) : OpsR l ↔ (l.length ≤ 150 ∧ (∀ i (h : i < l.length), opRight l[i] = true) ∧ Rises s) := by
  unfold OpsR
  rw [← apart_iff, ← apart_perm hp]
  constructor
  · rintro ⟨h1, h2, h3⟩; exact ⟨h1, h2, strict_rises (apart_strict ho h3)⟩
  · rintro ⟨h1, h2, h3⟩; exact ⟨h1, h2, strict_apart (rises_strict h3)⟩

/-- Two ordered rows brought together. -/
def mrg (a b : List OpV) : List OpV := List.merge a b leq
theorem mrg_perm (a b : List OpV) : (mrg a b).Perm (a ++ b) := List.merge_perm_append leq
theorem mrg_ord {a b : List OpV} (ha : Orderd a) (hb : Orderd b) : Orderd (mrg a b) := List.pairwise_merge leq_trans leq_total a b ha hb
theorem mrg_nil_left (b : List OpV) : mrg [] b = b := by simp [mrg]
theorem mrg_nil_right (a : List OpV) : mrg a [] = a := by simp [mrg]
theorem mrg_right {x y : OpV} (a b : List OpV) (h : ahead y x = true) : mrg (x :: a) (y :: b) = y :: mrg (x :: a) b := by
  unfold mrg; exact List.cons_merge_cons_neg _ _ _ (by simp [leq, h])
theorem mrg_left {x y : OpV} (a b : List OpV) (h : ahead y x = false) : mrg (x :: a) (y :: b) = x :: mrg a (y :: b) := by
  unfold mrg; exact List.cons_merge_cons_pos _ _ _ (by simp [leq, h])
theorem mrg_len (a b : List OpV) : (mrg a b).length = a.length + b.length := by rw [(mrg_perm a b).length_eq, List.length_append]

/-- One op of each stamp, out of an ordered row; none, if two of one stamp are not the same. -/
def once (kept : List OpV) : List OpV → Option (List OpV)
  | [] => some kept
  | o :: r => match kept.getLast? with
    | none => once (kept ++ [o]) r
    | some x => if ahead x o = true then once (kept ++ [o]) r else if sameOp x o = true then once kept r else none
theorem once_first {o : OpV} {r : List OpV} : once [] (o :: r) = once [o] r := rfl
theorem once_more {kept : List OpV} {x o : OpV} {r : List OpV} (hx : kept.getLast? = some x) (h : ahead x o = true) : once kept (o :: r) = once (kept ++ [o]) r := by
  simp only [once, hx, h, if_true]
theorem once_same {kept : List OpV} {o : OpV} {r : List OpV} (hx : kept.getLast? = some o) : once kept (o :: r) = once kept r := by
  simp only [once, hx, ahead_irrefl, same_true rfl, if_true]; rfl
theorem once_wrong {kept : List OpV} {x o : OpV} {r : List OpV} (hx : kept.getLast? = some x) (h : ahead x o = false) (hne : ¬ x = o) : once kept (o :: r) = none := by
  simp only [once, hx, h, same_false hne]; rfl
def Clash (l : List OpV) : Prop := ∃ x ∈ l, ∃ y ∈ l, stamp x y = true ∧ ¬ x = y
theorem strict_no_clash {l : List OpV} (h : Strict l) : ¬ Clash l := by
  rintro ⟨x, hx, y, hy, hs, hne⟩
  obtain ⟨i, hi, rfl⟩ := List.getElem_of_mem hx
  obtain ⟨j, hj, rfl⟩ := List.getElem_of_mem hy
  rcases Nat.lt_trichotomy i j with h' | h' | h'
  · rw [stamp_no (List.pairwise_iff_getElem.1 h i j hi hj h')] at hs; cases hs
  · subst h'; exact hne rfl
  · rw [stamp_symm, stamp_no (List.pairwise_iff_getElem.1 h j i hj hi h')] at hs; cases hs
theorem strict_snoc {l : List OpV} {o : OpV} (h : Strict l) (hl : ∀ x, l.getLast? = some x → ahead x o = true) : Strict (l ++ [o]) := by
  refine List.pairwise_append.2 ⟨h, by simp, fun a ha b hb => ?_⟩
  obtain rfl : b = o := by simpa using hb
  rcases List.eq_nil_or_concat l with rfl | ⟨l', x, rfl⟩
  · simp at ha
  · have hx := hl x (by simp)
    rw [List.concat_eq_append] at h ha
    rcases List.mem_append.1 ha with ha' | ha'
    · exact ahead_trans ((List.pairwise_append.1 h).2.2 a ha' x (by simp)) hx
    · obtain rfl : a = x := by simpa using ha'
      exact hx
theorem once_spec : ∀ (r kept : List OpV), Strict kept → Orderd (kept ++ r) → (∀ k, once kept r = some k → Strict k ∧ ∀ x, x ∈ k ↔ x ∈ kept ++ r) ∧ (once kept r = none → Clash (kept ++ r))
  | [], kept, hk, ho => ⟨fun k h => by cases h; exact ⟨hk, fun x => by simp⟩, fun h => by cases h⟩
  | o :: r, kept, hk, ho => by
    have e : kept ++ o :: r = (kept ++ [o]) ++ r := by simp
    cases hx : kept.getLast? with
    | none =>
      obtain rfl : kept = [] := by simpa using hx
      have := once_spec r [o] (by simp [Strict]) (by simpa using ho)
      exact this
    | some x =>
      have hxm : x ∈ kept := List.mem_of_getLast? hx
      cases ha : ahead x o
      · by_cases he : x = o
        · subst he
          rw [once_same hx]
          have ho' : Orderd (kept ++ r) := by
            refine List.Pairwise.sublist ?_ ho
            exact List.Sublist.append_left (List.sublist_cons_self _ _) _
          obtain ⟨h1, h2⟩ := once_spec r kept hk ho'
          refine ⟨fun k h => ⟨(h1 k h).1, fun y => ?_⟩, fun h => ?_⟩
          · rw [(h1 k h).2 y]
            simp only [List.mem_append, List.mem_cons]
            constructor
            · rintro (h | h)
              · exact .inl h
              · exact .inr (.inr h)
            · rintro (h | h | h)
              · exact .inl h
              · subst h; exact .inl hxm
              · exact .inr h
          · obtain ⟨a, ha, b, hb, hh⟩ := h2 h
            refine ⟨a, ?_, b, ?_, hh⟩
            · simp only [List.mem_append, List.mem_cons] at *; rcases ha with h | h
              · exact .inl h
              · exact .inr (.inr h)
            · simp only [List.mem_append, List.mem_cons] at *; rcases hb with h | h
              · exact .inl h
              · exact .inr (.inr h)
        · rw [once_wrong hx ha he]
          refine ⟨fun k h => (nomatch h), fun _ => ⟨x, by simp [hxm], o, by simp, ?_, he⟩⟩
          have h3 := (List.pairwise_append.1 ho).2.2 x hxm o (by simp)
          rw [leq_iff] at h3
          exact ahead_tri ha h3
      · rw [once_more hx ha, e]
        exact once_spec r (kept ++ [o]) (strict_snoc hk (fun y hy => by rw [hx] at hy; cases hy; exact ha)) (by rw [← e]; exact ho)

/-- Ordered rows without twins that hold the same are the same. -/
theorem strict_unique : ∀ {a b : List OpV}, Strict a → Strict b → (∀ x, x ∈ a ↔ x ∈ b) → a = b
  | [], [], _, _, _ => rfl
  | [], y :: b, _, _, h => absurd ((h y).2 (by simp)) (by simp)
  | x :: a, [], _, _, h => absurd ((h x).1 (by simp)) (by simp)
  | x :: a, y :: b, ha, hb, h => by
    have ha' := List.pairwise_cons.1 ha
    have hb' := List.pairwise_cons.1 hb
    have exy : x = y := by
      rcases List.mem_cons.1 ((h x).1 (by simp)) with e | e
      · exact e
      · rcases List.mem_cons.1 ((h y).2 (by simp)) with e2 | e2
        · exact e2.symm
        · have h1 := hb'.1 x e
          have h2 := ha'.1 y e2
          rw [ahead_asymm h1] at h2; cases h2
    subst exy
    congr 1
    refine strict_unique ha'.2 hb'.2 fun z => ⟨fun hz => ?_, fun hz => ?_⟩
    · rcases List.mem_cons.1 ((h z).1 (List.mem_cons_of_mem _ hz)) with e | e
      · subst e; have := ha'.1 _ hz; rw [ahead_irrefl] at this; cases this
      · exact e
    · rcases List.mem_cons.1 ((h z).2 (List.mem_cons_of_mem _ hz)) with e | e
      · subst e; have := hb'.1 _ hz; rw [ahead_irrefl] at this; cases this
      · exact e

theorem place_before {out : List OpV} {o : OpV} {j : Nat} (h : j < out.length) (hj : j < place out o) : ahead out[j] o = true := by
  unfold place at hj
  induction out generalizing j with
  | nil => simp at h
  | cons x r ih =>
    cases hx : ahead x o
    · simp [hx] at hj
    · cases j with
      | zero => exact hx
      | succ j =>
        simp only [List.takeWhile_cons, hx, if_true, List.length_cons] at hj
        exact ih (by simpa using h) (by omega)
theorem place_at {out : List OpV} {o : OpV} (h : place out o < out.length) : ahead out[place out o] o = false := by
  unfold place at *
  induction out with
  | nil => simp at h
  | cons x r ih =>
    cases hx : ahead x o
    · simp [hx]
    · simp only [List.takeWhile_cons, hx, if_true, List.length_cons, List.getElem_cons_succ] at h ⊢
      exact ih (by omega)
theorem addOne_spec {s : List OpV × Int} {o : OpV} (hs : Strict s.1) :
    (∀ t, addOne s o = some t → Strict t.1 ∧ (∀ x, x ∈ t.1 ↔ x ∈ s.1 ∨ x = o) ∧ t.2 - t.1.length = s.2 - s.1.length) ∧ (addOne s o = none → ∃ x ∈ s.1, stamp x o = true ∧ ¬ x = o) := by
  have ins : (∀ h : place s.1 o < s.1.length, stamp s.1[place s.1 o] o = false) → Strict (s.1.take (place s.1 o) ++ o :: s.1.drop (place s.1 o)) ∧ (∀ x, x ∈ (s.1.take (place s.1 o) ++ o :: s.1.drop (place s.1 o)) ↔ x ∈ s.1 ∨ x = o) ∧ (s.2 + 1) - (s.1.take (place s.1 o) ++ o :: s.1.drop (place s.1 o)).length = s.2 - s.1.length := by
    intro hst
    have hle := place_le s.1 o
    have hbef : ∀ x ∈ s.1.take (place s.1 o), ahead x o = true := fun x hx => by
      obtain ⟨j, hj, rfl⟩ := List.getElem_of_mem hx
      rw [List.length_take] at hj
      rw [List.getElem_take]
      exact place_before _ (by omega)
    have haft : ∀ x ∈ s.1.drop (place s.1 o), ahead o x = true := fun x hx => by
      obtain ⟨j, hj, rfl⟩ := List.getElem_of_mem hx
      rw [List.length_drop] at hj
      rw [List.getElem_drop]
      have hp : place s.1 o < s.1.length := by omega
      have h0 : ahead o s.1[place s.1 o] = true := by
        cases h : ahead o s.1[place s.1 o]
        · have := ahead_tri (place_at hp) h
          rw [hst hp] at this; cases this
        · rfl
      rcases Nat.eq_zero_or_pos j with rfl | hj0
      · exact h0
      · exact ahead_trans h0 (List.pairwise_iff_getElem.1 hs _ _ hp (by omega) (by omega))
    have hsp : Strict (s.1.take (place s.1 o) ++ s.1.drop (place s.1 o)) := by rw [List.take_append_drop]; exact hs
    have hsp' := List.pairwise_append.1 hsp
    refine ⟨List.pairwise_append.2 ⟨hsp'.1, List.pairwise_cons.2 ⟨haft, hsp'.2.1⟩, fun a ha b hb => ?_⟩, fun x => ?_, ?_⟩
    · rcases List.mem_cons.1 hb with rfl | hb'
      · exact hbef a ha
      · exact hsp'.2.2 a ha b hb'
    · conv => rhs; rw [← List.take_append_drop (place s.1 o) s.1]
      simp only [List.mem_append, List.mem_cons]
      constructor
      · rintro (h | h | h)
        · exact .inl (.inl h)
        · exact .inr h
        · exact .inl (.inr h)
      · rintro ((h | h) | h)
        · exact .inl h
        · exact .inr (.inr h)
        · exact .inr (.inl h)
    · simp; omega
  by_cases hp : place s.1 o < s.1.length
  · cases hst : stamp s.1[place s.1 o] o
    · rw [addOne_new rfl (fun _ => hst)]
      exact ⟨fun t h => by cases h; exact ins (fun _ => hst), fun h => by cases h⟩
    · by_cases he : s.1[place s.1 o] = o
      · rw [addOne_there rfl hp hst he]
        refine ⟨fun t h => ?_, fun h => by cases h⟩
        cases h
        refine ⟨hs, fun x => ⟨.inl, ?_⟩, rfl⟩
        rintro (h | h)
        · exact h
        · rw [h, ← he]; exact List.getElem_mem hp
      · rw [addOne_wrong rfl hp hst he]
        exact ⟨fun t h => (nomatch h), fun _ => ⟨_, List.getElem_mem hp, hst, he⟩⟩
  · rw [addOne_new rfl (fun h => absurd h hp)]
    exact ⟨fun t h => by cases h; exact ins (fun h => absurd h hp), fun h => by cases h⟩
theorem addAll_spec : ∀ (m : List OpV) (s : List OpV × Int), Strict s.1 →
    (∀ t, addAll s m = some t → Strict t.1 ∧ (∀ x, x ∈ t.1 ↔ x ∈ s.1 ++ m) ∧ t.2 - t.1.length = s.2 - s.1.length) ∧ (addAll s m = none → Clash (s.1 ++ m))
  | [], s, hs => ⟨fun t h => by cases h; exact ⟨hs, fun x => by simp, rfl⟩, fun h => by cases h⟩
  | o :: m, s, hs => by
    have h1 := addOne_spec (o := o) hs
    have e : addAll s (o :: m) = (addOne s o).bind fun s' => addAll s' m := rfl
    rw [e]
    cases ho : addOne s o with
    | none =>
      obtain ⟨x, hx, hst, hne⟩ := h1.2 ho
      exact ⟨fun t h => (nomatch h), fun _ => ⟨x, by simp [hx], o, by simp, hst, hne⟩⟩
    | some t =>
      obtain ⟨ht, hm, hc⟩ := h1.1 t ho
      obtain ⟨h2, h3⟩ := addAll_spec m t ht
      refine ⟨fun u hu => ?_, fun hn => ?_⟩
      · obtain ⟨a1, a2, a3⟩ := h2 u hu
        refine ⟨a1, fun x => ?_, by rw [a3, hc]⟩
        rw [a2 x]
        simp only [List.mem_append, List.mem_cons, hm x, or_assoc]
      · obtain ⟨a, ha, b, hb, hh⟩ := h3 hn
        refine ⟨a, ?_, b, ?_, hh⟩
        · simpa only [List.mem_append, List.mem_cons, hm a, or_assoc] using ha
        · simpa only [List.mem_append, List.mem_cons, hm b, or_assoc] using hb
theorem clash_of {a b : List OpV} (h : ∀ x, x ∈ a → x ∈ b) (hc : Clash a) : Clash b := by
  obtain ⟨x, hx, y, hy, hh⟩ := hc
  exact ⟨x, h x hx, y, h y hy, hh⟩
/-- A log and ops put to it: what a merge and one of each stamp make of them is what putting them one by one makes. -/
theorem once_add {l m s : List OpV} (hl : Strict l) (hs : s.Perm m) (ho : Orderd s) :
    (∀ k, once [] (mrg l s) = some k → addAll (l, 0) m = some (k, (k.length : Int) - l.length)) ∧ (once [] (mrg l s) = none → addAll (l, 0) m = none) := by
  have hO := mrg_ord (strict_ord hl) ho
  obtain ⟨h1, h2⟩ := once_spec (mrg l s) [] (by simp [Strict]) (by simpa using hO)
  obtain ⟨h3, h4⟩ := addAll_spec m (l, 0) hl
  have mem : ∀ x, x ∈ mrg l s ↔ x ∈ l ++ m := fun x => by
    rw [(mrg_perm l s).mem_iff, List.mem_append, List.mem_append, hs.mem_iff]
  simp only [List.nil_append] at h1 h2
  refine ⟨fun k hk => ?_, fun hn => ?_⟩
  · obtain ⟨a1, a2⟩ := h1 k hk
    cases ha : addAll (l, 0) m with
    | none => exact absurd (clash_of (fun x hx => (a2 x).2 ((mem x).2 hx)) (h4 ha)) (strict_no_clash a1)
    | some t =>
      obtain ⟨b1, b2, b3⟩ := h3 t ha
      have e : t.1 = k := strict_unique b1 a1 fun x => by rw [b2 x, a2 x, mem x]
      have e2 : t.2 = (k.length : Int) - l.length := by rw [e] at b3; simp at b3; omega
      rw [← e2, ← e]
  · cases ha : addAll (l, 0) m with
    | none => rfl
    | some t =>
      obtain ⟨b1, b2, b3⟩ := h3 t ha
      exact absurd (clash_of (fun x hx => (b2 x).2 ((mem x).1 hx)) (h2 hn)) (strict_no_clash b1)
theorem once_len : ∀ (r kept k : List OpV), once kept r = some k → k.length ≤ kept.length + r.length
  | [], kept, k, h => by cases h; simp
  | o :: r, kept, k, h => by
    unfold once at h
    split at h
    · have := once_len r _ k h; simp at *; omega
    · split at h
      · have := once_len r _ k h; simp at *; omega
      · split at h
        · have := once_len r _ k h; simp at *; omega
        · cases h
end Go.Proofs.Ytlphcbgeagmopaa.OpR
