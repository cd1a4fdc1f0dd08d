/- Plain mathematics of ops in order: a merge of two ordered rows, one op of each stamp, and what is put to a log. Proves what impl's generic functions make of ops: two rows in order brought together, and a row in order. Proves what impl.sorted makes of ops: the same ops, in order, in new memory. Proves what impl.OpsRight and impl.logRight tell. Proves what impl.TreeOf answers. Proves what spec.l03May tells of a right tree. Proves what spec.l03Copy makes. -/
import Derived.Test.YtcpgkalafkhlgaeDog
namespace Go.Proofs.Ytcpgkalafkhlgae.OpR
set_option linter.unusedVariables false

theorem ahead_iff (a b : OpV) : ahead a b = true ↔ a.time < b.time ∨ (a.time = b.time ∧ a.repl < b.repl) := by simp [ahead]
theorem stamp_iff (a b : OpV) : stamp a b = true ↔ a.time = b.time ∧ a.repl = b.repl := by simp [stamp]
theorem ahead_trans {a b c : OpV} (h1 : ahead a b = true) (h2 : ahead b c = true) : ahead a c = true := by
  rw [ahead_iff] at *; omega
theorem ahead_irrefl (a : OpV) : ahead a a = false := by
  refine Bool.eq_false_iff.2 fun h => ?_
  rw [ahead_iff] at h; omega
theorem ahead_asymm {a b : OpV} (h : ahead a b = true) : ahead b a = false := by
  refine Bool.eq_false_iff.2 fun h' => ?_
  rw [ahead_iff] at *; omega
theorem ahead_tri {a b : OpV} (h1 : ahead a b = false) (h2 : ahead b a = false) : stamp a b = true := by
  rw [Bool.eq_false_iff, Ne, ahead_iff] at h1 h2
  rw [stamp_iff]; omega
theorem stamp_no {a b : OpV} (h : ahead a b = true) : stamp a b = false := by
  refine Bool.eq_false_iff.2 fun h' => ?_
  rw [ahead_iff] at h; rw [stamp_iff] at h'; omega
theorem stamp_symm (a b : OpV) : stamp a b = stamp b a := by
  rw [Bool.eq_iff_iff, stamp_iff, stamp_iff]; omega
theorem stamp_self (a : OpV) : stamp a a = true := by rw [stamp_iff]; exact ⟨rfl, rfl⟩

def leq (a b : OpV) : Bool := !ahead b a
def Orderd (l : List OpV) : Prop := l.Pairwise (fun a b => leq a b = true)
def Strict (l : List OpV) : Prop := l.Pairwise (fun a b => ahead a b = true)
theorem leq_iff (a b : OpV) : leq a b = true ↔ ahead b a = false := by simp [leq]
theorem leq_trans (a b c : OpV) (h1 : leq a b = true) (h2 : leq b c = true) : leq a c = true := by
  rw [leq_iff, Bool.eq_false_iff, Ne, ahead_iff] at *; omega
theorem leq_total (a b : OpV) : (leq a b || leq b a) = true := by
  cases h : leq a b
  · have : ahead b a = true := by simpa [leq] using h
    simp [leq, ahead_asymm this]
  · rfl
theorem rises_strict {l : List OpV} (h : Rises l) : Strict l := by
  refine List.pairwise_iff_getElem.2 fun i j hi hj hij => ?_
  have key : ∀ d i (hd : i + d + 1 < l.length), ahead l[i] l[i + d + 1] = true := by
    intro d
    induction d with
    | zero => intro i hd; exact h i hd
    | succ d ih => intro i hd; exact ahead_trans (ih i (by omega)) (h (i + d + 1) hd)
  have h2 := key (j - i - 1) i (by omega)
  have e : i + (j - i - 1) + 1 = j := by omega
  simpa only [e] using h2
theorem strict_rises {l : List OpV} (h : Strict l) : Rises l := fun i hi => List.pairwise_iff_getElem.1 h i (i + 1) (by omega) hi (by omega)
theorem pw_map {R S : OpV → OpV → Prop} {l : List OpV} (h : l.Pairwise R) (hRS : ∀ a b, R a b → S a b) : l.Pairwise S :=
  List.pairwise_iff_getElem.2 fun i j hi hj hij => hRS _ _ (List.pairwise_iff_getElem.1 h i j hi hj hij)
theorem strict_ord {l : List OpV} (h : Strict l) : Orderd l := pw_map h fun a b hab => (leq_iff a b).2 (ahead_asymm hab)
/-- No two of one stamp. -/
def Apart (l : List OpV) : Prop := l.Pairwise (fun a b => stamp a b = false)
theorem strict_apart {l : List OpV} (h : Strict l) : Apart l := pw_map h fun a b hab => stamp_no hab
theorem apart_strict {l : List OpV} (h : Orderd l) (h2 : Apart l) : Strict l := by
  refine List.pairwise_iff_getElem.2 fun i j hi hj hij => ?_
  have h1 := List.pairwise_iff_getElem.1 h i j hi hj hij
  have h2 := List.pairwise_iff_getElem.1 h2 i j hi hj hij
  obtain ⟨a, ea⟩ : ∃ a, a = l[i] := ⟨_, rfl⟩
  obtain ⟨b, eb⟩ : ∃ b, b = l[j] := ⟨_, rfl⟩
  rw [← ea, ← eb] at h1 h2 ⊢
  rw [leq_iff] at h1
  cases ha : ahead a b
  · rw [ahead_tri ha h1] at h2; cases h2
  · rfl
theorem apart_perm {l m : List OpV} (h : l.Perm m) : Apart l ↔ Apart m := h.pairwise_iff (fun {a b} hab => by rw [stamp_symm]; exact hab)
theorem apart_iff (l : List OpV) : Apart l ↔ ∀ i k (h : i < l.length) (hk : k < i), stamp l[k] l[i] = false :=
  ⟨fun h i k hi hk => List.pairwise_iff_getElem.1 h k i (by omega) hi hk, fun h => List.pairwise_iff_getElem.2 fun i j hi hj hij => h j i hj hij⟩
/-- What impl asks of a list of ops. -/
theorem opsR_iff {l s : List OpV} (hp : s.Perm l) (ho : Orderd s) : OpsR l ↔ (l.length ≤ 150 ∧ (∀ i (h : i < l.length), opRight l[i] = true) ∧ Rises s) := by
  unfold OpsR
  rw [← apart_iff, ← apart_perm hp]
  constructor
  · rintro ⟨h1, h2, h3⟩; exact ⟨h1, h2, strict_rises (apart_strict ho h3)⟩
  · rintro ⟨h1, h2, h3⟩; exact ⟨h1, h2, strict_apart (rises_strict h3)⟩

/-- Two ordered rows brought together. -/
def mrg (a b : List OpV) : List OpV := List.merge a b leq
theorem mrg_perm (a b : List OpV) : (mrg a b).Perm (a ++ b) := List.merge_perm_append leq
theorem mrg_ord {a b : List OpV} (ha : Orderd a) (hb : Orderd b) : Orderd (mrg a b) := List.pairwise_merge leq_trans leq_total a b ha hb
theorem mrg_nil_left (b : List OpV) : mrg [] b = b := by simp [mrg]
theorem mrg_nil_right (a : List OpV) : mrg a [] = a := by simp [mrg]
theorem mrg_right {x y : OpV} (a b : List OpV) (h : ahead y x = true) : mrg (x :: a) (y :: b) = y :: mrg (x :: a) b := by
  unfold mrg; exact List.cons_merge_cons_neg _ _ _ (by simp [leq, h])
theorem mrg_left {x y : OpV} (a b : List OpV) (h : ahead y x = false) : mrg (x :: a) (y :: b) = x :: mrg a (y :: b) := by
  unfold mrg; exact List.cons_merge_cons_pos _ _ _ (by simp [leq, h])
theorem mrg_len (a b : List OpV) : (mrg a b).length = a.length + b.length := by rw [(mrg_perm a b).length_eq, List.length_append]

/-- One op of each stamp, out of an ordered row; none, if two of one stamp are not the same. -/
def once (kept : List OpV) : List OpV → Option (List OpV)
  | [] => some kept
  | o :: r => match kept.getLast? with
    | none => once (kept ++ [o]) r
    | some x => if ahead x o = true then once (kept ++ [o]) r else if sameOp x o = true then once kept r else none
theorem once_first {o : OpV} {r : List OpV} : once [] (o :: r) = once [o] r := rfl
theorem once_more {kept : List OpV} {x o : OpV} {r : List OpV} (hx : kept.getLast? = some x) (h : ahead x o = true) : once kept (o :: r) = once (kept ++ [o]) r := by
  simp only [once, hx, h, if_true]
theorem once_same {kept : List OpV} {o : OpV} {r : List OpV} (hx : kept.getLast? = some o) : once kept (o :: r) = once kept r := by
  simp only [once, hx, ahead_irrefl, same_true rfl, if_true]; rfl
theorem once_wrong {kept : List OpV} {x o : OpV} {r : List OpV} (hx : kept.getLast? = some x) (h : ahead x o = false) (hne : ¬ x = o) : once kept (o :: r) = none := by
  simp only [once, hx, h, same_false hne]; rfl
def Clash (l : List OpV) : Prop := ∃ x ∈ l, ∃ y ∈ l, stamp x y = true ∧ ¬ x = y
theorem strict_no_clash {l : List OpV} (h : Strict l) : ¬ Clash l := by
  rintro ⟨x, hx, y, hy, hs, hne⟩
  obtain ⟨i, hi, rfl⟩ := List.getElem_of_mem hx
  obtain ⟨j, hj, rfl⟩ := List.getElem_of_mem hy
  rcases Nat.lt_trichotomy i j with h' | h' | h'
  · rw [stamp_no (List.pairwise_iff_getElem.1 h i j hi hj h')] at hs; cases hs
  · subst h'; exact hne rfl
  · rw [stamp_symm, stamp_no (List.pairwise_iff_getElem.1 h j i hj hi h')] at hs; cases hs
theorem strict_snoc {l : List OpV} {o : OpV} (h : Strict l) (hl : ∀ x, l.getLast? = some x → ahead x o = true) : Strict (l ++ [o]) := by
  refine List.pairwise_append.2 ⟨h, by simp, fun a ha b hb => ?_⟩
  obtain rfl : b = o := by simpa using hb
  rcases List.eq_nil_or_concat l with rfl | ⟨l', x, rfl⟩
  · simp at ha
  · have hx := hl x (by simp)
    rw [List.concat_eq_append] at h ha
    rcases List.mem_append.1 ha with ha' | ha'
    · exact ahead_trans ((List.pairwise_append.1 h).2.2 a ha' x (by simp)) hx
    · obtain rfl : a = x := by simpa using ha'
      exact hx
theorem once_spec : ∀ (r kept : List OpV), Strict kept → Orderd (kept ++ r) → (∀ k, once kept r = some k → Strict k ∧ ∀ x, x ∈ k ↔ x ∈ kept ++ r) ∧ (once kept r = none → Clash (kept ++ r))
  | [], kept, hk, ho => ⟨fun k h => by cases h; exact ⟨hk, fun x => by simp⟩, fun h => by cases h⟩
  | o :: r, kept, hk, ho => by
    have e : kept ++ o :: r = (kept ++ [o]) ++ r := by simp
    cases hx : kept.getLast? with
    | none =>
      obtain rfl : kept = [] := by simpa using hx
      have := once_spec r [o] (by simp [Strict]) (by simpa using ho)
      exact this
    | some x =>
      have hxm : x ∈ kept := List.mem_of_getLast? hx
      cases ha : ahead x o
      · by_cases he : x = o
        · subst he
          rw [once_same hx]
          have ho' : Orderd (kept ++ r) := by
            refine List.Pairwise.sublist ?_ ho
            exact List.Sublist.append_left (List.sublist_cons_self _ _) _
          obtain ⟨h1, h2⟩ := once_spec r kept hk ho'
          refine ⟨fun k h => ⟨(h1 k h).1, fun y => ?_⟩, fun h => ?_⟩
          · rw [(h1 k h).2 y]
            simp only [List.mem_append, List.mem_cons]
            constructor
            · rintro (h | h)
              · exact .inl h
              · exact .inr (.inr h)
            · rintro (h | h | h)
              · exact .inl h
              · subst h; exact .inl hxm
              · exact .inr h
          · obtain ⟨a, ha, b, hb, hh⟩ := h2 h
            refine ⟨a, ?_, b, ?_, hh⟩
            · simp only [List.mem_append, List.mem_cons] at *; rcases ha with h | h
              · exact .inl h
              · exact .inr (.inr h)
            · simp only [List.mem_append, List.mem_cons] at *; rcases hb with h | h
              · exact .inl h
              · exact .inr (.inr h)
        · rw [once_wrong hx ha he]
          refine ⟨fun k h => (nomatch h), fun _ => ⟨x, by simp [hxm], o, by simp, ?_, he⟩⟩
          have h3 := (List.pairwise_append.1 ho).2.2 x hxm o (by simp)
          rw [leq_iff] at h3
          exact ahead_tri ha h3
      · rw [once_more hx ha, e]
        exact once_spec r (kept ++ [o]) (strict_snoc hk (fun y hy => by rw [hx] at hy; cases hy; exact ha)) (by rw [← e]; exact ho)

/-- Ordered rows without twins that hold the same are the same. -/
theorem strict_unique : ∀ {a b : List OpV}, Strict a → Strict b → (∀ x, x ∈ a ↔ x ∈ b) → a = b
  | [], [], _, _, _ => rfl
  | [], y :: b, _, _, h => absurd ((h y).2 (by simp)) (by simp)
  | x :: a, [], _, _, h => absurd ((h x).1 (by simp)) (by simp)
  | x :: a, y :: b, ha, hb, h => by
    have ha' := List.pairwise_cons.1 ha
    have hb' := List.pairwise_cons.1 hb
    have exy : x = y := by
      rcases List.mem_cons.1 ((h x).1 (by simp)) with e | e
      · exact e
      · rcases List.mem_cons.1 ((h y).2 (by simp)) with e2 | e2
        · exact e2.symm
        · have h1 := hb'.1 x e
          have h2 := ha'.1 y e2
          rw [ahead_asymm h1] at h2; cases h2
    subst exy
    congr 1
    refine strict_unique ha'.2 hb'.2 fun z => ⟨fun hz => ?_, fun hz => ?_⟩
    · rcases List.mem_cons.1 ((h z).1 (List.mem_cons_of_mem _ hz)) with e | e
      · subst e; have := ha'.1 _ hz; rw [ahead_irrefl] at this; cases this
      · exact e
    · rcases List.mem_cons.1 ((h z).2 (List.mem_cons_of_mem _ hz)) with e | e
      · subst e; have := hb'.1 _ hz; rw [ahead_irrefl] at this; cases this
      · exact e

theorem place_before {out : List OpV} {o : OpV} {j : Nat} (h : j < out.length) (hj : j < place out o) : ahead out[j] o = true := by
  unfold place at hj
  induction out generalizing j with
  | nil => simp at h
  | cons x r ih =>
    cases hx : ahead x o
    · simp [hx] at hj
    · cases j with
      | zero => exact hx
      | succ j =>
        simp only [List.takeWhile_cons, hx, if_true, List.length_cons] at hj
        exact ih (by simpa using h) (by omega)
theorem place_at {out : List OpV} {o : OpV} (h : place out o < out.length) : ahead out[place out o] o = false := by
  unfold place at *
  induction out with
  | nil => simp at h
  | cons x r ih =>
    cases hx : ahead x o
    · simp [hx]
    · simp only [List.takeWhile_cons, hx, if_true, List.length_cons, List.getElem_cons_succ] at h ⊢
      exact ih (by omega)
theorem addOne_spec {s : List OpV × Int} {o : OpV} (hs : Strict s.1) :
    (∀ t, addOne s o = some t → Strict t.1 ∧ (∀ x, x ∈ t.1 ↔ x ∈ s.1 ∨ x = o) ∧ t.2 - t.1.length = s.2 - s.1.length) ∧ (addOne s o = none → ∃ x ∈ s.1, stamp x o = true ∧ ¬ x = o) := by
  have ins : (∀ h : place s.1 o < s.1.length, stamp s.1[place s.1 o] o = false) → Strict (s.1.take (place s.1 o) ++ o :: s.1.drop (place s.1 o)) ∧ (∀ x, x ∈ (s.1.take (place s.1 o) ++ o :: s.1.drop (place s.1 o)) ↔ x ∈ s.1 ∨ x = o) ∧ (s.2 + 1) - (s.1.take (place s.1 o) ++ o :: s.1.drop (place s.1 o)).length = s.2 - s.1.length := by
    intro hst
    have hle := place_le s.1 o
    have hbef : ∀ x ∈ s.1.take (place s.1 o), ahead x o = true := fun x hx => by
      obtain ⟨j, hj, rfl⟩ := List.getElem_of_mem hx
      rw [List.length_take] at hj
      rw [List.getElem_take]
      exact place_before _ (by omega)
    have haft : ∀ x ∈ s.1.drop (place s.1 o), ahead o x = true := fun x hx => by
      obtain ⟨j, hj, rfl⟩ := List.getElem_of_mem hx
      rw [List.length_drop] at hj
      rw [List.getElem_drop]
      have hp : place s.1 o < s.1.length := by omega
      have h0 : ahead o s.1[place s.1 o] = true := by
        cases h : ahead o s.1[place s.1 o]
        · have := ahead_tri (place_at hp) h
          rw [hst hp] at this; cases this
        · rfl
      rcases Nat.eq_zero_or_pos j with rfl | hj0
      · exact h0
      · exact ahead_trans h0 (List.pairwise_iff_getElem.1 hs _ _ hp (by omega) (by omega))
    have hsp : Strict (s.1.take (place s.1 o) ++ s.1.drop (place s.1 o)) := by rw [List.take_append_drop]; exact hs
    have hsp' := List.pairwise_append.1 hsp
    refine ⟨List.pairwise_append.2 ⟨hsp'.1, List.pairwise_cons.2 ⟨haft, hsp'.2.1⟩, fun a ha b hb => ?_⟩, fun x => ?_, ?_⟩
    · rcases List.mem_cons.1 hb with rfl | hb'
      · exact hbef a ha
      · exact hsp'.2.2 a ha b hb'
    · conv => rhs; rw [← List.take_append_drop (place s.1 o) s.1]
      simp only [List.mem_append, List.mem_cons]
      constructor
      · rintro (h | h | h)
        · exact .inl (.inl h)
        · exact .inr h
        · exact .inl (.inr h)
      · rintro ((h | h) | h)
        · exact .inl h
        · exact .inr (.inr h)
        · exact .inr (.inl h)
    · simp; omega
  by_cases hp : place s.1 o < s.1.length
  · cases hst : stamp s.1[place s.1 o] o
    · rw [addOne_new rfl (fun _ => hst)]
      exact ⟨fun t h => by cases h; exact ins (fun _ => hst), fun h => by cases h⟩
    · by_cases he : s.1[place s.1 o] = o
      · rw [addOne_there rfl hp hst he]
        refine ⟨fun t h => ?_, fun h => by cases h⟩
        cases h
        refine ⟨hs, fun x => ⟨.inl, ?_⟩, rfl⟩
        rintro (h | h)
        · exact h
        · rw [h, ← he]; exact List.getElem_mem hp
      · rw [addOne_wrong rfl hp hst he]
        exact ⟨fun t h => (nomatch h), fun _ => ⟨_, List.getElem_mem hp, hst, he⟩⟩
  · rw [addOne_new rfl (fun h => absurd h hp)]
    exact ⟨fun t h => by cases h; exact ins (fun h => absurd h hp), fun h => by cases h⟩
theorem addAll_spec : ∀ (m : List OpV) (s : List OpV × Int), Strict s.1 →
    (∀ t, addAll s m = some t → Strict t.1 ∧ (∀ x, x ∈ t.1 ↔ x ∈ s.1 ++ m) ∧ t.2 - t.1.length = s.2 - s.1.length) ∧ (addAll s m = none → Clash (s.1 ++ m))
  | [], s, hs => ⟨fun t h => by cases h; exact ⟨hs, fun x => by simp, rfl⟩, fun h => by cases h⟩
  | o :: m, s, hs => by
    have h1 := addOne_spec (o := o) hs
    have e : addAll s (o :: m) = (addOne s o).bind fun s' => addAll s' m := rfl
    rw [e]
    cases ho : addOne s o with
    | none =>
      obtain ⟨x, hx, hst, hne⟩ := h1.2 ho
      exact ⟨fun t h => (nomatch h), fun _ => ⟨x, by simp [hx], o, by simp, hst, hne⟩⟩
    | some t =>
      obtain ⟨ht, hm, hc⟩ := h1.1 t ho
      obtain ⟨h2, h3⟩ := addAll_spec m t ht
      refine ⟨fun u hu => ?_, fun hn => ?_⟩
      · obtain ⟨a1, a2, a3⟩ := h2 u hu
        refine ⟨a1, fun x => ?_, by rw [a3, hc]⟩
        rw [a2 x]
        simp only [List.mem_append, List.mem_cons, hm x, or_assoc]
      · obtain ⟨a, ha, b, hb, hh⟩ := h3 hn
        refine ⟨a, ?_, b, ?_, hh⟩
        · simpa only [List.mem_append, List.mem_cons, hm a, or_assoc] using ha
        · simpa only [List.mem_append, List.mem_cons, hm b, or_assoc] using hb
theorem clash_of {a b : List OpV} (h : ∀ x, x ∈ a → x ∈ b) (hc : Clash a) : Clash b := by
  obtain ⟨x, hx, y, hy, hh⟩ := hc
  exact ⟨x, h x hx, y, h y hy, hh⟩
/-- A log and ops put to it: what a merge and one of each stamp make of them is what putting them one by one makes. -/
theorem once_add {l m s : List OpV} (hl : Strict l) (hs : s.Perm m) (ho : Orderd s) :
    (∀ k, once [] (mrg l s) = some k → addAll (l, 0) m = some (k, (k.length : Int) - l.length)) ∧ (once [] (mrg l s) = none → addAll (l, 0) m = none) := by
  have hO := mrg_ord (strict_ord hl) ho
  obtain ⟨h1, h2⟩ := once_spec (mrg l s) [] (by simp [Strict]) (by simpa using hO)
  obtain ⟨h3, h4⟩ := addAll_spec m (l, 0) hl
  have mem : ∀ x, x ∈ mrg l s ↔ x ∈ l ++ m := fun x => by
    rw [(mrg_perm l s).mem_iff, List.mem_append, List.mem_append, hs.mem_iff]
  simp only [List.nil_append] at h1 h2
  refine ⟨fun k hk => ?_, fun hn => ?_⟩
  · obtain ⟨a1, a2⟩ := h1 k hk
    cases ha : addAll (l, 0) m with
    | none => exact absurd (clash_of (fun x hx => (a2 x).2 ((mem x).2 hx)) (h4 ha)) (strict_no_clash a1)
    | some t =>
      obtain ⟨b1, b2, b3⟩ := h3 t ha
      have e : t.1 = k := strict_unique b1 a1 fun x => by rw [b2 x, a2 x, mem x]
      have e2 : t.2 = (k.length : Int) - l.length := by rw [e] at b3; simp at b3; omega
      rw [← e2, ← e]
  · cases ha : addAll (l, 0) m with
    | none => rfl
    | some t =>
      obtain ⟨b1, b2, b3⟩ := h3 t ha
      exact absurd (clash_of (fun x hx => (b2 x).2 ((mem x).1 hx)) (h2 hn)) (strict_no_clash b1)
theorem once_len : ∀ (r kept k : List OpV), once kept r = some k → k.length ≤ kept.length + r.length
  | [], kept, k, h => by cases h; simp
  | o :: r, kept, k, h => by
    unfold once at h
    split at h
    · have := once_len r _ k h; simp at *; omega
    · split at h
      · have := once_len r _ k h; simp at *; omega
      · split at h
        · have := once_len r _ k h; simp at *; omega
        · cases h
end Go.Proofs.Ytcpgkalafkhlgae.OpR
namespace Go.Proofs.Ytcpgkalafkhlgae.OpR
open Go.ChangeShapes Go.WideShapes Go.ChangeAt Go.RowKit
set_option linter.unusedVariables false

theorem make_cap (n : Nat) (N : Int) (hN : N = (n : Int)) (hn : n ≤ 1048576) (w : World) : (Instr.makeSlice 22 (.int .i64 0) (.int .i64 N)).run Try.prog w = .ok (.slice (some ⟨w.heap.size, 0, none⟩) 0 n) (w.alloc (.cells (opsArr (List.replicate n OpV.zero)) 51)) := by
  subst hN
  obtain ⟨i, hi, hz⟩ := Option.map_eq_some_iff.1 infoOp
  simp only [Prod.mk.injEq] at hz
  obtain ⟨hz, hs, hb⟩ := hz
  have h := run_make (P := Try.prog) w 22 51 i _ Try.underlying22 hi hz .i64 .i64 0 n (by omega) (by omega) (by rw [hb]; omega) (by omega)
  simp only [Int.toNat_natCast, hs] at h
  rw [← made_ops n]
  exact h
def aheadFn : Value := .func (.func 47) #[] #[]

theorem op_news (x : World) (o : OpV) (T : TypeId) : ∀ j u, o.cells[j]? = some u → (x.alloc (.cells #[.int .i64 o.time, .int .i64 o.repl, .int .i64 o.kind, .int .i64 o.node, .int .i64 o.parent, .string o.name, .string o.value] T)).drew.cell? ((⟨x.heap.size, 0, none⟩ : Addr).add j) = some u := by
  intro j u hu
  rw [Addr.add_lit, Nat.zero_add]
  show (x.alloc (.cells #[.int .i64 o.time, .int .i64 o.repl, .int .i64 o.kind, .int .i64 o.node, .int .i64 o.parent, .string o.name, .string o.value] T)).cell? ⟨x.heap.size, j, none⟩ = some u
  rw [World.cell?_alloc_at _ _ _ _ rfl]
  simpa [OpV.cells] using hu
def sliceLen : Value → Nat
  | .slice _ n _ => n
  | _ => 0
set_option maxRecDepth 100000 in
set_option maxHeartbeats 1000000 in
theorem merged_any (a b : List OpV) (ao bo : Option Addr) (ca cb : Nat) (w : World) (ha : a.length ≤ 400) (hb : b.length ≤ 400) (hca : a.length ≤ ca) (hcb : b.length ≤ cb) (hA : OpsAt w ao a) (hB : OpsAt w bo b) :
    Calls Try.prog 45 #[.slice ao a.length ca, .slice bo b.length cb, aheadFn] w fun e w' => ∃ v, e = .returned v ∧ OwnAt w' w.heap.size 51 v (mrg a b) ∧ Below w.heap.size w w' := by
  unfold aheadFn
  have hmk := fun W => make_cap (a.length + b.length) ((a.length : Int) + (b.length : Int)) (by omega) (by omega) W
  have HA : Hid (OpsAt w ao a) := ⟨hA⟩
  have HB : Hid (OpsAt w bo b) := ⟨hB⟩
  clear hA hB
  have HCa : Hid (a.length ≤ ca) := ⟨hca⟩
  have HCb : Hid (b.length ≤ cb) := ⟨hcb⟩
  clear hca hcb
  have hown0 := World.ownsRow_made (base := w.heap.size) (e := 51) (size := 7) w (opsArr (List.replicate (a.length + b.length) OpV.zero)) (a.length + b.length) (Nat.le_refl _) (by unfold maxLen; omega) (by rw [opsArr_size, List.length_replicate])
  have HO0 : Hid (OwnAt (w.alloc (.cells (opsArr (List.replicate (a.length + b.length) OpV.zero)) 51)) w.heap.size 51 (.slice (some ⟨w.heap.size, 0, none⟩) 0 (a.length + b.length)) []) := ⟨hown0, by simp⟩
  clear hown0
  obtain ⟨i0, hi, hzz⟩ := Option.map_eq_some_iff.1 infoOp
  simp only [Prod.mk.injEq] at hzz
  obtain ⟨hz0, hz1, hz2⟩ := hzz
  go_enter Try.func45, Try.ntmps45
  go_wp2
  clear hmk
  go_loopw [0, 1, 7] (fun va vb vo wr => ∃ p q out pao qbo pc qc, va = .slice pao (List.length p) pc ∧ vb = .slice qbo (List.length q) qc ∧ List.length p ≤ pc ∧ List.length q ≤ qc ∧ OpsAt w pao p ∧ OpsAt w qbo q ∧ OwnAt wr w.heap.size 51 vo out ∧ out ++ mrg p q = mrg a b ∧ List.length out + p.length + q.length = a.length + b.length ∧ Below w.heap.size w wr) (fun va vb _ _ => sliceLen va + sliceLen vb)
  case atStart => exact ⟨a, b, [], ao, bo, ca, cb, rfl, rfl, HCa.out, HCb.out, HA.out, HB.out, HO0.out, rfl, by simp, (Below.refl _ _).alloc (Nat.le_refl _) _⟩
  case round =>
    obtain ⟨p, q, out, pao, qbo, pc, qc, rfl, rfl, hpc, hqc, hP, hQ, hO, hM, hlen, hbw⟩ := hrel
    have HP : Hid (OpsAt w pao p) := ⟨hP⟩
    have HQ : Hid (OpsAt w qbo q) := ⟨hQ⟩
    have HO : Hid (OwnAt wr w.heap.size 51 u7 out) := ⟨hO⟩
    have HM : Hid (out ++ mrg p q = mrg a b) := ⟨hM⟩
    clear hP hQ hO hM
    by_cases hp : 0 < p.length
    · by_cases hq : 0 < q.length
      · obtain ⟨x, p, rfl⟩ : ∃ x p', p = x :: p' := by cases p with | nil => simp at hp | cons x p' => exact ⟨x, p', rfl⟩
        obtain ⟨y, q, rfl⟩ : ∃ y q', q = y :: q' := by cases q with | nil => simp at hq | cons y q' => exact ⟨y, q', rfl⟩
        obtain ⟨g1, o1, rfl, hlt1, ho1⟩ := HP.out 0 (by simp)
        obtain ⟨g2, o2, rfl, hlt2, ho2⟩ := HQ.out 0 (by simp)
        have hx0 : OpAt w g1 o1 x := by simpa using ho1
        have hy0 : OpAt w g2 o2 y := by simpa using ho2
        have HX : Hid (OpAt w g1 o1 x) := ⟨hx0⟩
        have HY : Hid (OpAt w g2 o2 y) := ⟨hy0⟩
        obtain ⟨c0, c1, c2, c3, c4, c5, c6⟩ := hx0.block (hbw.block g1 hlt1)
        obtain ⟨d0, d1, d2, d3, d4, d5, d6⟩ := hy0.block (hbw.block g2 hlt2)
        have hcall := fun W => iAhead_any y x W
        unfold OpV.agg at hcall
        simp only [List.length_cons] at hlen hpc hqc hp hq ⊢
        clear hx0 hy0 ho1 ho2
        obtain ⟨g, cap, rfl, hg1, hg2, hcap, hcm, hat⟩ := HO.out.at
        clear hat
        go_wp2
        go_region_held3 (fun w' => w'.cell? ⟨g1, o1, none⟩ = some (.int .i64 x.time) ∧ w'.cell? ⟨g1, o1 + 1, none⟩ = some (.int .i64 x.repl) ∧ w'.cell? ⟨g1, o1 + 2, none⟩ = some (.int .i64 x.kind) ∧ w'.cell? ⟨g1, o1 + 3, none⟩ = some (.int .i64 x.node) ∧ w'.cell? ⟨g1, o1 + 4, none⟩ = some (.int .i64 x.parent) ∧ w'.cell? ⟨g1, o1 + 5, none⟩ = some (.string x.name) ∧ w'.cell? ⟨g1, o1 + 6, none⟩ = some (.string x.value) ∧ w'.cell? ⟨g2, o2, none⟩ = some (.int .i64 y.time) ∧ w'.cell? ⟨g2, o2 + 1, none⟩ = some (.int .i64 y.repl) ∧ w'.cell? ⟨g2, o2 + 2, none⟩ = some (.int .i64 y.kind) ∧ w'.cell? ⟨g2, o2 + 3, none⟩ = some (.int .i64 y.node) ∧ w'.cell? ⟨g2, o2 + 4, none⟩ = some (.int .i64 y.parent) ∧ w'.cell? ⟨g2, o2 + 5, none⟩ = some (.string y.name) ∧ w'.cell? ⟨g2, o2 + 6, none⟩ = some (.string y.value)) (exact ⟨c0, c1, c2, c3, c4, c5, c6, d0, d1, d2, d3, d4, d5, d6⟩) (first | (go_at_call 47; refine (hcall _).mono ?_; rintro e x1 ⟨rfl, hx1⟩; have hX : Below w.heap.size w x1 := hbw.drew.trans (hx1.mono hbw.size); obtain ⟨c0, c1, c2, c3, c4, c5, c6⟩ := HX.out.block (hX.block g1 hlt1); obtain ⟨d0, d1, d2, d3, d4, d5, d6⟩ := HY.out.block (hX.block g2 hlt2)))
        clear hcall c0 c1 c2 c3 c4 c5 c6 d0 d1 d2 d3 d4 d5 d6
        have HO1 : Hid (OwnAt x1 w.heap.size 51 (.slice (some ⟨g, 0, none⟩) out.length cap) out) := ⟨HO.out.below ((Below.refl _ _).drew.trans (hx1.mono (by simp)))⟩
        cases ha : ahead y x
        · go_wp2
          have hsl := fun W => slice_from W g1 o1 (p.length + 1) pc 1 1 rfl (by omega)
          have hXs := hX.size
          go_region_held3 (fun w' => w'.cell? ⟨g1, o1, none⟩ = some (.int .i64 x.time) ∧ w'.cell? ⟨g1, o1 + 1, none⟩ = some (.int .i64 x.repl) ∧ w'.cell? ⟨g1, o1 + 2, none⟩ = some (.int .i64 x.kind) ∧ w'.cell? ⟨g1, o1 + 3, none⟩ = some (.int .i64 x.node) ∧ w'.cell? ⟨g1, o1 + 4, none⟩ = some (.int .i64 x.parent) ∧ w'.cell? ⟨g1, o1 + 5, none⟩ = some (.string x.name) ∧ w'.cell? ⟨g1, o1 + 6, none⟩ = some (.string x.value)) (first | exact HX.out.block (hX.drew.block g1 hlt1) | exact HX.out.block ((hX.alloc hXs _).drew.block g1 hlt1) | exact HX.out.block (hYY.block g1 hlt1)) ((refine step_append_lies _ (by rfl) _ _ _ (by rfl) w.heap.size 51 i0 _ 7 72 Try.underlying22 hi hz0 hz1 hz2 rfl (by decide) _ out.length (flat out) (by rfl) (HO1.out.1.alloc _).drewn ⟨x1.heap.size, 0, none⟩ 1 1 x.cells (by rfl) rfl (op_news x1 _ _) (op_one _) (by omega) (by unfold maxLen; omega) (by omega) (by simp; omega) (x1.heap.size + 1) (by simp) ?_; intro gn cn y1 hown hgrow hatn hltn; have hYY : Below w.heap.size w y1 := (hX.alloc hXs _).drew.grown hgrow (by simp; omega) (fun j hj => by simp [Value.ownBlock] at hj; omega)))
          have HO2 : Hid (OwnAt y1 w.heap.size 51 (.slice (some ⟨gn, 0, none⟩) (out.length + 1) cn) (out ++ [x])) := ⟨by
            have e1 : (out ++ [x]).length = out.length + 1 := by simp
            have e2 : flat (out ++ [x]) = flat out ++ x.cells := by rw [flat_app]; simp [flat]
            rw [e1, e2]; exact hown, by simp⟩
          have HP2 : Hid (OpsAt w (some ⟨g1, fromOff o1 pc 1, none⟩) p) := ⟨by have h2 := HP.out.from (cap := pc) 1 (by simp; omega); simpa using h2⟩
          have HM2 : Hid ((out ++ [x]) ++ mrg p (y :: q) = mrg a b) := ⟨by rw [← HM.out, mrg_left p q ha]; simp⟩
          clear hown hgrow hatn
          go_wp2
          go_roundw
          case rel => exact ⟨p, y :: q, out ++ [x], _, _, pc - 1, qc, rfl, rfl, by omega, by simp; omega, HP2.out, HQ.out, HO2.out, HM2.out, by simp; omega, hYY⟩
          case measure => simp [sliceLen]
        · go_wp2
          have hsl := fun W => slice_from W g2 o2 (q.length + 1) qc 1 1 rfl (by omega)
          have hXs := hX.size
          go_region_held3 (fun w' => w'.cell? ⟨g2, o2, none⟩ = some (.int .i64 y.time) ∧ w'.cell? ⟨g2, o2 + 1, none⟩ = some (.int .i64 y.repl) ∧ w'.cell? ⟨g2, o2 + 2, none⟩ = some (.int .i64 y.kind) ∧ w'.cell? ⟨g2, o2 + 3, none⟩ = some (.int .i64 y.node) ∧ w'.cell? ⟨g2, o2 + 4, none⟩ = some (.int .i64 y.parent) ∧ w'.cell? ⟨g2, o2 + 5, none⟩ = some (.string y.name) ∧ w'.cell? ⟨g2, o2 + 6, none⟩ = some (.string y.value)) (first | exact HY.out.block (hX.drew.block g2 hlt2) | exact HY.out.block ((hX.alloc hXs _).drew.block g2 hlt2) | exact HY.out.block (hYY.block g2 hlt2)) ((refine step_append_lies _ (by rfl) _ _ _ (by rfl) w.heap.size 51 i0 _ 7 72 Try.underlying22 hi hz0 hz1 hz2 rfl (by decide) _ out.length (flat out) (by rfl) (HO1.out.1.alloc _).drewn ⟨x1.heap.size, 0, none⟩ 1 1 y.cells (by rfl) rfl (op_news x1 _ _) (op_one _) (by omega) (by unfold maxLen; omega) (by omega) (by simp; omega) (x1.heap.size + 1) (by simp) ?_; intro gn cn y1 hown hgrow hatn hltn; have hYY : Below w.heap.size w y1 := (hX.alloc hXs _).drew.grown hgrow (by simp; omega) (fun j hj => by simp [Value.ownBlock] at hj; omega)))
          have HO2 : Hid (OwnAt y1 w.heap.size 51 (.slice (some ⟨gn, 0, none⟩) (out.length + 1) cn) (out ++ [y])) := ⟨by
            have e1 : (out ++ [y]).length = out.length + 1 := by simp
            have e2 : flat (out ++ [y]) = flat out ++ y.cells := by rw [flat_app]; simp [flat]
            rw [e1, e2]; exact hown, by simp⟩
          have HQ2 : Hid (OpsAt w (some ⟨g2, fromOff o2 qc 1, none⟩) q) := ⟨by have h2 := HQ.out.from (cap := qc) 1 (by simp; omega); simpa using h2⟩
          have HM2 : Hid ((out ++ [y]) ++ mrg (x :: p) q = mrg a b) := ⟨by rw [← HM.out, mrg_right p q ha]; simp⟩
          clear hown hgrow hatn
          go_wp2
          go_roundw
          case rel => exact ⟨x :: p, q, out ++ [y], _, _, pc, qc - 1, rfl, rfl, by simp; omega, by omega, HP.out, HQ2.out, HO2.out, HM2.out, by simp; omega, hYY⟩
          case measure => simp [sliceLen]
      · obtain ⟨g, cap, rfl, hg1, hg2, hcap, hcm, hat⟩ := HO.out.at
        clear hat
        have HE : Hid ((out ++ p) ++ q = mrg a b) := ⟨by rw [← HM.out, show q = [] from List.eq_nil_of_length_eq_zero (by omega), mrg_nil_right]; simp⟩
        have hbs := hbw.size
        go_wp2_with (at_builtin; refine wpList_append_ops rfl _ _ rfl w.heap.size _ out rfl HO.out.1 pao p pc rfl (HP.out.stays hbw) (by omega) hbs ?_)
        intro v1 w1 hown1 hgr1 hne1
        have hB1 : Below w.heap.size w w1 := hbw.grown hgr1 hbs (fun j hj => (HO.out.1.lt j hj).1)
        have HO1 : Hid (OwnAt w1 w.heap.size 51 v1 (out ++ p)) := ⟨by rw [List.length_append]; exact hown1, hne1⟩
        have hB1s := hB1.size
        clear hown1 hgr1 hne1
        go_wp2_with (at_builtin; refine wpList_append_ops rfl _ _ rfl w.heap.size _ (out ++ p) rfl HO1.out.1 qbo q qc rfl (HQ.out.stays hB1) (by simp; omega) hB1s ?_)
        intro v2 w2 hown2 hgr2 hne2
        have hB2 : Below w.heap.size w w2 := hB1.grown hgr2 hB1s (fun j hj => (HO1.out.1.lt j hj).1)
        have HF : Hid (OwnAt w2 w.heap.size 51 v2 (mrg a b)) := ⟨by rw [← HE.out]; simpa using hown2, fun hh => HO1.out.2 (by have := hne2.1 hh; first | exact this | exact this.1)⟩
        clear hown2 hgr2 hne2
        go_wp2
        go_ret
        exact ⟨v2, rfl, HF.out, hB2⟩
    · obtain ⟨g, cap, rfl, hg1, hg2, hcap, hcm, hat⟩ := HO.out.at
      clear hat
      have HE : Hid ((out ++ p) ++ q = mrg a b) := ⟨by rw [← HM.out, show p = [] from List.eq_nil_of_length_eq_zero (by omega), mrg_nil_left]; simp⟩
      have hbs := hbw.size
      go_wp2_with (at_builtin; refine wpList_append_ops rfl _ _ rfl w.heap.size _ out rfl HO.out.1 pao p pc rfl (HP.out.stays hbw) (by omega) hbs ?_)
      intro v1 w1 hown1 hgr1 hne1
      have hB1 : Below w.heap.size w w1 := hbw.grown hgr1 hbs (fun j hj => (HO.out.1.lt j hj).1)
      have HO1 : Hid (OwnAt w1 w.heap.size 51 v1 (out ++ p)) := ⟨by rw [List.length_append]; exact hown1, hne1⟩
      have hB1s := hB1.size
      clear hown1 hgr1 hne1
      go_wp2_with (at_builtin; refine wpList_append_ops rfl _ _ rfl w.heap.size _ (out ++ p) rfl HO1.out.1 qbo q qc rfl (HQ.out.stays hB1) (by simp; omega) hB1s ?_)
      intro v2 w2 hown2 hgr2 hne2
      have hB2 : Below w.heap.size w w2 := hB1.grown hgr2 hB1s (fun j hj => (HO1.out.1.lt j hj).1)
      have HF : Hid (OwnAt w2 w.heap.size 51 v2 (mrg a b)) := ⟨by rw [← HE.out]; simpa using hown2, fun hh => HO1.out.2 (by have := hne2.1 hh; first | exact this | exact this.1)⟩
      clear hown2 hgr2 hne2
      go_wp2
      go_ret
      exact ⟨v2, rfl, HF.out, hB2⟩
end Go.Proofs.Ytcpgkalafkhlgae.OpR
namespace Go.Proofs.Ytcpgkalafkhlgae.OpR
open Go.ChangeShapes Go.WideShapes Go.ChangeAt Go.RowKit
set_option linter.unusedVariables false

/-- A row that the call owns, or nil, as a slice of ops. -/
theorem owns_at {w : World} {base : Nat} {T : TypeId} {v : Value} {l : List OpV} (h : w.ownsRow base T 7 v l.length (flat l)) : ∃ ao c, v = .slice ao l.length c ∧ l.length ≤ c ∧ OpsAt w ao l := by
  by_cases hv : v = .slice none 0 0
  · rcases h.2 with ⟨e, hn⟩ | ⟨g, cap, cur, e, _⟩
    · have hl : l = [] := List.eq_nil_of_length_eq_zero (by simpa using hn)
      subst hl
      exact ⟨none, 0, e, Nat.le_refl _, fun j hj => absurd hj (by simp)⟩
    · rw [e] at hv; simp at hv
  · obtain ⟨g, cap, e, _, _, h1, _, h2⟩ := OwnAt.at ⟨h, hv⟩
    exact ⟨_, cap, e, h1, h2⟩
theorem owns_stays {w w' : World} {base : Nat} {T : TypeId} {v : Value} {l : List OpV} (h : w.ownsRow base T 7 v l.length (flat l)) (hb : Below w.heap.size w w') : w'.ownsRow base T 7 v l.length (flat l) :=
  h.kept (row := none) ⟨hb.os, hb.tape, hb.output, hb.size, fun k hk _ => hb.block k hk⟩ (by cases hv : v.ownBlock <;> simp)
theorem ord_short {l : List OpV} (h : l.length < 2) : Orderd l := by
  match l, h with
  | [], _ => simp [Orderd]
  | [x], _ => simp [Orderd]

set_option maxRecDepth 100000 in
set_option maxHeartbeats 1000000 in
theorem sorted_any : ∀ (n : Nat) (l : List OpV) (ao : Option Addr) (cap : Nat) (w : World), l.length ≤ n → l.length ≤ 400 → l.length ≤ cap → OpsAt w ao l →
    Calls Try.prog 46 #[.slice ao l.length cap, aheadFn] w fun e w' => ∃ v s, e = .returned v ∧ s.Perm l ∧ Orderd s ∧ w'.ownsRow w.heap.size 51 7 v s.length (flat s) ∧ Below w.heap.size w w' := by
  intro n
  induction n with
  | zero =>
    intro l ao cap w hn h400 hcap hA
    have HA : Hid (OpsAt w ao l) := ⟨hA⟩
    clear hA
    unfold aheadFn
    go_enter Try.func46, Try.ntmps46
    go_wp2_with (at_builtin; refine wpList_append_ops rfl _ _ rfl w.heap.size (.slice none 0 0) [] rfl (World.ownsRow_nil w _ _ _) ao l cap rfl HA.out (by simp; omega) (Nat.le_refl _) ?_)
    intro v1 w1 hown1 hgr1 hne1
    have hB1 : Below w.heap.size w w1 := (Below.refl _ _).grown hgr1 (Nat.le_refl _) (fun j hj => by simp [Value.ownBlock] at hj)
    have HF : Hid (w1.ownsRow w.heap.size 51 7 v1 l.length (flat l)) := ⟨by simpa using hown1⟩
    clear hown1 hgr1 hne1
    go_wp2
    go_ret
    exact ⟨v1, l, rfl, List.Perm.refl _, ord_short (by omega), HF.out, hB1⟩
  | succ n ih =>
    intro l ao cap w hn h400 hcap hA
    by_cases h2 : l.length < 2
    · have HA : Hid (OpsAt w ao l) := ⟨hA⟩
      clear hA ih
      unfold aheadFn
      go_enter Try.func46, Try.ntmps46
      go_wp2_with (at_builtin; refine wpList_append_ops rfl _ _ rfl w.heap.size (.slice none 0 0) [] rfl (World.ownsRow_nil w _ _ _) ao l cap rfl HA.out (by simp; omega) (Nat.le_refl _) ?_)
      intro v1 w1 hown1 hgr1 hne1
      have hB1 : Below w.heap.size w w1 := (Below.refl _ _).grown hgr1 (Nat.le_refl _) (fun j hj => by simp [Value.ownBlock] at hj)
      have HF : Hid (w1.ownsRow w.heap.size 51 7 v1 l.length (flat l)) := ⟨by simpa using hown1⟩
      clear hown1 hgr1 hne1
      go_wp2
      go_ret
      exact ⟨v1, l, rfl, List.Perm.refl _, ord_short h2, HF.out, hB1⟩
    · obtain ⟨g, o, rfl, hlt, _⟩ := hA 0 (by omega)
      have HA : Hid (OpsAt w (some ⟨g, o, none⟩) l) := ⟨hA⟩
      clear hA
      have e1 : (l.take (l.length / 2)).length = l.length / 2 := by rw [List.length_take]; omega
      have e2 : (l.drop (l.length / 2)).length = l.length - l.length / 2 := by rw [List.length_drop]
      have ih1 := fun W (hW : Below w.heap.size w W) => ih (l.take (l.length / 2)) (some ⟨g, o, none⟩) (l.length / 2) W (by omega) (by omega) (by omega) ((HA.out.stays hW).take _)
      have ih2 := fun W (hW : Below w.heap.size w W) => ih (l.drop (l.length / 2)) (some ⟨g, fromOff o cap (l.length / 2), none⟩) (cap - l.length / 2) W (by omega) (by omega) (by omega) ((HA.out.stays hW).from _ hcap)
      simp only [e1] at ih1
      simp only [e2] at ih2
      have hsl1 := fun W => slice_cut W g o l.length cap (l.length / 2) ((l.length : Int) / 2) (by omega) (by omega)
      have hsl2 := fun W => slice_from W g o l.length cap (l.length / 2) ((l.length : Int) / 2) (by omega) (by omega)
      have hmg := fun a b ao bo ca cb W h1 h2 h3 h4 h5 h6 => merged_any a b ao bo ca cb W h1 h2 h3 h4 h5 h6
      unfold aheadFn at *
      clear ih
      have m1 : Hid True := ⟨trivial⟩
      go_enter Try.func46, Try.ntmps46
      go_wp2_with fail
      go_region_held3 (fun _ => True) (trivial) (first | (go_at_call 46; clear m1; refine (ih1 _ (Below.refl _ _).drew).mono ?_; rintro e w1 ⟨v1, s1, rfl, hp1, ho1, hw1, hb1⟩; have hB1 : Below w.heap.size w w1 := (Below.refl _ _).drew.trans (hb1.mono (by simp)); obtain ⟨a1, c1, rfl, hc1, hA1⟩ := owns_at hw1; clear ih1 hw1) | (go_at_call 46; refine (ih2 _ hB1).mono ?_; rintro e w2 ⟨v2, s2, rfl, hp2, ho2, hw2, hb2⟩; have hB2 : Below w.heap.size w w2 := hB1.trans (hb2.mono hB1.size); obtain ⟨a2, c2, rfl, hc2, hA2⟩ := owns_at hw2; have hl1 : Hid (s1.length ≤ 400) := ⟨by have h0 := hp1.length_eq; omega⟩; have hl2 : Hid (s2.length ≤ 400) := ⟨by have h0 := hp2.length_eq; omega⟩; clear ih2 hw2) | (go_at_call 45; refine (hmg s1 s2 a1 a2 c1 c2 w2 hl1.out hl2.out hc1 hc2 (hA1.stays hb2) hA2).mono ?_; rintro e w3 ⟨v3, rfl, hO3, hb3⟩))
      have hB3 : Below w.heap.size w w3 := hB2.trans (hb3.mono hB2.size)
      have HF : Hid (w3.ownsRow w.heap.size 51 7 v3 (mrg s1 s2).length (flat (mrg s1 s2))) := ⟨owns_base hO3.1 hB2.size⟩
      clear hmg hO3
      go_wp2
      go_ret
      refine ⟨v3, mrg s1 s2, rfl, ?_, mrg_ord ho1 ho2, HF.out, hB3⟩
      refine (mrg_perm s1 s2).trans ((hp1.append hp2).trans ?_)
      rw [List.take_append_drop]
end Go.Proofs.Ytcpgkalafkhlgae.OpR
namespace Go.Proofs.Ytcpgkalafkhlgae.OpR
open Go.ChangeShapes Go.WideShapes Go.ChangeAt Go.RowKit
set_option linter.unusedVariables false

theorem each_of {l : List OpV} (h : eachR l = true) : EachR l := by
  refine Classical.byContradiction fun hn => ?_
  rw [each_no hn] at h
  cases h
theorem ops_each {l s : List OpV} (h : EachR l) (hp : s.Perm l) (ho : Orderd s) : rises s = opsRight l := by
  have hiff := opsR_iff hp ho
  by_cases hr : Rises s
  · rw [rises_yes hr, ops_yes (hiff.2 ⟨h.1, h.2, hr⟩)]
  · rw [rises_no hr, ops_no fun hh => hr (hiff.1 hh).2.2]
theorem log_each {l : List OpV} (h : EachR l) : rises l = logRight l := by
  by_cases hr : Rises l
  · rw [rises_yes hr, log_yes ⟨h.2, h.1, hr⟩]
  · rw [rises_no hr, log_no fun hh => hr hh.2.2]

set_option maxRecDepth 100000 in
set_option maxHeartbeats 400000 in
theorem iOps_any (l : List OpV) (ao : Option Addr) (cap : Nat) (w : World) (hl : l.length ≤ maxLen) (hcap : l.length ≤ cap) (hA : OpsAt w ao l) (hS : Sized l) :
    Calls Try.prog 43 #[.slice ao l.length cap] w fun e w' => e = .returned (.bool (opsRight l)) ∧ Below w.heap.size w w' := by
  have h1 := fun W (hW : Below w.heap.size w W) => each_any l ao cap W hl (hA.stays hW) hS
  cases he : eachR l
  · have HN : Hid (opsRight l = false) := ⟨ops_no fun hh => by rw [each_yes ⟨hh.1, hh.2.1⟩] at he; cases he⟩
    rw [he] at h1
    clear he hA hS
    go_enter Try.func43, Try.ntmps43
    go_wp2_with (first | (go_at_call 86; refine (h1 _ (Below.refl _ _)).mono ?_; rintro e w1 ⟨rfl, hb1⟩))
    go_ret
    exact ⟨ret_bool (by rw [HN.out]), hb1⟩
  · have hE := each_of he
    have h400 : l.length ≤ 400 := by have := hE.1; omega
    have HE : Hid (EachR l) := ⟨hE⟩
    have hs := fun W (hW : Below w.heap.size w W) => sorted_any l.length l ao cap W (Nat.le_refl _) h400 hcap (hA.stays hW)
    have hr := fun s (ao : Option Addr) (cap : Nat) W h1 h2 => iRises_any s ao cap W h1 h2
    rw [he] at h1
    unfold aheadFn at hs
    clear he hA hS hE
    go_enter Try.func43, Try.ntmps43
    go_wp2_with (first | (go_at_call 86; refine (h1 _ (Below.refl _ _)).mono ?_; rintro e w1 ⟨rfl, hb1⟩; clear h1) | (go_at_call 46; refine (hs _ hb1).mono ?_; rintro e w2 ⟨v2, s2, rfl, hp2, ho2, hw2, hb2⟩; have hB2 : Below w.heap.size w w2 := hb1.trans (hb2.mono hb1.size); obtain ⟨a2, c2, rfl, hc2, hA2⟩ := owns_at hw2; have hl2 : Hid (s2.length ≤ maxLen) := ⟨by rw [hp2.length_eq]; exact hl⟩; clear hs hw2) | (go_at_call 87; refine (hr s2 a2 c2 w2 hl2.out hA2).mono ?_; rintro e w3 ⟨rfl, hb3⟩))
    go_ret
    exact ⟨ret_bool (ops_each HE.out hp2 ho2), hB2.trans (hb3.mono hB2.size)⟩

set_option maxRecDepth 100000 in
set_option maxHeartbeats 400000 in
theorem iLog_any (l : List OpV) (ao : Option Addr) (cap : Nat) (w : World) (hl : l.length ≤ maxLen) (hA : OpsAt w ao l) (hS : Sized l) :
    Calls Try.prog 42 #[.slice ao l.length cap] w fun e w' => e = .returned (.bool (logRight l)) ∧ Below w.heap.size w w' := by
  have h1 := fun W (hW : Below w.heap.size w W) => each_any l ao cap W hl (hA.stays hW) hS
  cases he : eachR l
  · have HN : Hid (logRight l = false) := ⟨log_no fun hh => by rw [each_yes ⟨hh.2.1, hh.1⟩] at he; cases he⟩
    rw [he] at h1
    clear he hA hS
    go_enter Try.func42, Try.ntmps42
    go_wp2_with (first | (go_at_call 86; refine (h1 _ (Below.refl _ _)).mono ?_; rintro e w1 ⟨rfl, hb1⟩))
    go_ret
    exact ⟨ret_bool (by rw [HN.out]), hb1⟩
  · have HE : Hid (EachR l) := ⟨each_of he⟩
    have hr := fun W (hW : Below w.heap.size w W) => iRises_any l ao cap W hl (hA.stays hW)
    rw [he] at h1
    clear he hA hS
    go_enter Try.func42, Try.ntmps42
    go_wp2_with (first | (go_at_call 86; refine (h1 _ (Below.refl _ _)).mono ?_; rintro e w1 ⟨rfl, hb1⟩; clear h1) | (go_at_call 87; refine (hr _ hb1).mono ?_; rintro e w3 ⟨rfl, hb3⟩))
    go_ret
    exact ⟨ret_bool (log_each HE.out), hb1.trans (hb3.mono hb1.size)⟩
end Go.Proofs.Ytcpgkalafkhlgae.OpR
namespace Go.Proofs.Ytcpgkalafkhlgae.OpR
open Go.ChangeShapes Go.WideShapes Go.ChangeAt Go.RowKit
set_option linter.unusedVariables false

/-- The tree of ops, from no node on. -/
def tof (l : List OpV) : List NodG := l.foldl (fun d o => tdo d o none 0) []
theorem tof_take {l : List OpV} {k : Nat} (h : k < l.length) : tof (l.take (k + 1)) = tdo (tof (l.take k)) l[k] none 0 := by
  unfold tof
  rw [← List.take_append_getElem h, List.foldl_append]
  rfl
theorem tree_nil : TreeR [] := ⟨by simp, fun i hi => absurd hi (by simp), fun n hn => absurd hn (by simp)⟩
theorem tof_right {l : List OpV} (h : ∀ i (h : i < l.length), opRight l[i] = true) : ∀ k, k ≤ l.length → TreeR (tof (l.take k))
  | 0, _ => by rw [List.take_zero]; exact tree_nil
  | k + 1, hk => by
    rw [tof_take (by omega)]
    exact tdo_right (tof_right h k (by omega)) (opOk_of (h k (by omega))) _ _
/-- What TreeOf answers. -/
def treeOf (l : List OpV) : List NodG := if logRight l then tof l else []
/-- What the loop of TreeOf holds: the answer's variable, the map, the nodes. -/
structure OfV (w c : World) (B : Nat) (d : List NodG) : Prop where
  box : Box1 w c w.heap.size (.slice none 0 0) 43
  at_ : w.heap.size < B
  map : MapAt c B (kvOf d)
  props : PropsIn c B d
  right : TreeR d
theorem Box1.turn {w c c' : World} {v : Value} {T : TypeId} {B : Nat} (h : Box1 w c w.heap.size v T) (hB : w.heap.size < B) (hg : c.grownBy c' (some B)) : Box1 w c' w.heap.size v T := by
  have hl := (Array.getElem?_eq_some_iff.1 h.lies).1
  have hs := h.below.size
  exact ⟨⟨hg.os.trans h.below.os, hg.tape.trans h.below.tape, hg.output.trans h.below.output, Nat.le_trans hs hg.size, fun k hk => (hg.block k (by omega) (by simp; omega)).trans (h.below.block k hk)⟩, (hg.block _ hl (by simp; omega)).trans h.lies⟩
theorem OfV.step {w c c' : World} {B : Nat} {d : List NodG} (h : OfV w c B d) (hb : Below c.heap.size c c') : OfV w c' B d :=
  ⟨h.box.step hb, h.at_, h.map.stays hb, h.props.stays hb, h.right⟩

theorem tree_own_nil (w : World) (base : Nat) : TreeOwn w base (.slice none 0 0) [] := ⟨⟨by simp [flatG], .inl ⟨rfl, rfl⟩⟩, fun n hn => absurd hn (by simp), List.Pairwise.nil, fun n hn => absurd hn (by simp)⟩
set_option maxRecDepth 100000 in
set_option maxHeartbeats 1000000 in
theorem iTreeOf_any (l : List OpV) (ao : Option Addr) (cap : Nat) (w : World) (hl : l.length ≤ maxLen) (hA : OpsAt w ao l) (hS : Sized l) :
    Calls Try.prog 32 #[.slice ao l.length cap] w fun e w' => ∃ v d, e = .returned (.agg #[v]) ∧ TreeOwn w' w.heap.size v d ∧ d.map NodG.bare = (treeOf l).map NodG.bare ∧ Below w.heap.size w w' := by
  have hlr := fun W (hW : Below w.heap.size w W) => iLog_any l ao cap W hl (hA.stays hW) hS
  have HA := hide hA
  have H1 := hide (Box1.start w (.slice none 0 0) 43)
  clear hA hS
  cases hr : logRight l
  · have HF : Hid (treeOf l = []) := ⟨by simp [treeOf, hr]⟩
    simp only [hr] at hlr
    go_enter Try.func32, Try.ntmps32
    go_wp2_with (first | (go_at_call 42; refine (hlr _ H1.out.below).mono ?_; rintro e w1 ⟨rfl, hb1⟩; have H2 := hide (H1.out.step hb1); have hc := H2.out.cell; have hf := (cells1 H2.out.lies).2; clear hb1 hlr))
    refine bodyPost_ret (v := .agg #[.slice none 0 0]) (by simp [results, Try.results32, go_sem, hc]) rfl ⟨_, [], rfl, tree_own_nil _ _, by rw [HF.out], H2.out.below.setCell (p := ⟨w.heap.size, 0, none⟩) (Nat.le_refl _) _⟩
  · have HF : Hid (treeOf l = tof l) := ⟨by simp [treeOf, hr]⟩
    have HLR := hide ((log_iff l).1 hr)
    have hl150 : l.length ≤ 150 := HLR.out.2.1
    simp only [hr] at hlr
    have hmm := @run_makeMap Try.prog
    go_enter Try.func32, Try.ntmps32
    go_wp2_with (first | (go_at_call 42; refine (hlr _ H1.out.below).mono ?_; rintro e w1 ⟨rfl, hb1⟩; have H2 := hide (H1.out.step hb1); clear hb1 hlr))
    clear hmm
    obtain ⟨B, hB⟩ : ∃ B, w1.heap.size = B := ⟨_, rfl⟩
    have hst : OfV w (w1.alloc (.map #[] 0)) B [] := ⟨H2.out.step ((Below.refl _ _).alloc (Nat.le_refl _) _), by rw [← hB]; exact (Array.getElem?_eq_some_iff.1 H2.out.lies).1, by rw [← hB]; exact MapAt.made w1, ⟨fun n hn => absurd hn (by simp), fun n hn => absurd hn (by simp)⟩, tree_nil⟩
    rw [hB]
    have HST := hide hst
    clear hst
    go_loopw [13] (fun i wr => ∃ (k : Nat) (d : List NodG), k ≤ l.length ∧ i = .int .i64 k ∧ d.map NodG.bare = tof (l.take k) ∧ OfV w wr B d) (fun i _ => l.length - (intOf i).toNat)
    case atStart => exact ⟨0, [], by omega, rfl, rfl, HST.out⟩
    case round =>
      obtain ⟨k, d, hk, rfl, hd, hV⟩ := hrel
      by_cases h : k < l.length
      · obtain ⟨b, off, rfl, hlt, ho⟩ := HA.out k h
        obtain ⟨c0, c1, c2, c3, c4, c5, c6⟩ := ho.block (w' := wr) (hV.box.below.block b hlt)
        have hi0 : (0 : Int) ≤ (k : Int) := by omega
        have hi1 : (k : Int) < (l.length : Int) := by omega
        have hdo := fun W (hW : Below wr.heap.size wr W) => do_any d B l[k] W hV.right (opOk_of (HLR.out.1 k h)) (hV.map.stays hW) (hV.props.stays hW)
        unfold OpV.agg at hdo
        have HDO := hide hdo
        have HV := hide hV
        have HD := hide hd
        clear ho hV hd hdo
        go_wp2_with (first | (go_at_call 67; refine (HDO.out _ ((Below.refl _ _).alloc (Nat.le_refl _) _)).mono ?_; rintro e w4 ⟨⟨v4, rfl⟩, a4, c4', hM4, hP4, hg4⟩; have HG4 := hide hg4; have HM4 := hide hM4; have HP4 := hide hP4; clear hM4 hP4 hg4))
        go_roundw
        case rel =>
          refine ⟨k + 1, tdo d l[k] a4 c4', by omega, by go_num, ?_, ⟨(HV.out.box.step ((Below.refl _ _).alloc (Nat.le_refl _) _)).turn HV.out.at_ HG4.out, HV.out.at_, HM4.out, HP4.out, tdo_right HV.out.right (opOk_of (HLR.out.1 k h)) _ _⟩⟩
          rw [tdo_bare, HD.out, tof_take h]
        case measure => simp [intOf]; omega
      · obtain rfl : k = l.length := by omega
        have HV := hide hV
        have HD : Hid (d.map NodG.bare = tof l) := ⟨by rw [List.take_length] at hd; exact hd⟩
        have H150 := hide hV.right
        clear hV hd
        go_wp2_with (first | (go_at_call 68; refine (treeM_any d B wr (by have := H150.out.1; omega) H150.out.2.1 (tree_sized H150.out) HV.out.props.at_ HV.out.map).mono ?_; rintro e w5 ⟨v5, d5, rfl, ht5, hd5, hb5⟩; obtain ⟨a5, c5, rfl, _, _⟩ := owns_atN ht5.row; have H6 := hide (HV.out.box.step hb5); have HT5 := hide ht5; have HD5 := hide hd5; have hr := H6.out.cell; have hf := (cells1 H6.out.lies).2; clear ht5 hd5))
        have hw5 : w.heap.size < wr.heap.size := (Array.getElem?_eq_some_iff.1 HV.out.box.lies).1
        refine bodyPost_ret (v := .agg #[.slice a5 d5.length c5]) (by simp [results, Try.results32, go_sem, hr]) rfl ⟨_, d5, rfl, ?_, by rw [HF.out, HD5.out, ← HD.out, List.map_map]; rfl, H6.out.below.setCell (p := ⟨w.heap.size, 0, none⟩) (Nat.le_refl _) _⟩
        refine (HT5.out.moved (fun g hg => ?_)).lower (Nat.le_of_lt hw5)
        exact Below.heap_setCell _ _ _ _ (by simp; omega)
end Go.Proofs.Ytcpgkalafkhlgae.OpR
namespace Go.Proofs.Ytcpgkalafkhlgae.OpR
open Go.ChangeShapes Go.WideShapes Go.ChangeAt Go.RowKit
set_option linter.unusedVariables false

def mayCode (l : List NodG) (x p : Int) : Int := if placeB l p then (if decide (p = x) || abF (par l) x (l.length + 1) p then 10 else 0) else 6
theorem may_code (l : List NodG) (o : OpV) : decide (mayCode l o.node o.parent = 0) = (placeB l o.parent && (!decide (o.parent = o.node) && !abF (par l) o.node (l.length + 1) o.parent)) := by
  unfold mayCode
  cases placeB l o.parent
  · rfl
  · cases decide (o.parent = o.node)
    · cases abF (par l) o.node (l.length + 1) o.parent <;> rfl
    · rfl
set_option maxRecDepth 100000 in
set_option maxHeartbeats 1000000 in
theorem sMay_any (l : List NodG) (ao : Option Addr) (cap : Nat) (x p : Int) (w : World) (ht : TreeR l) (hA : NodesAt w ao l) :
    Calls Try.prog 120 #[.agg #[.slice ao l.length cap], .int .i64 x, .int .i64 p] w fun e w' => e = .returned (.int .i64 (mayCode l x p)) ∧ Below w.heap.size w w' := by
  have hl : l.length ≤ 1048576 := by have := ht.1; omega
  obtain ⟨p0, p1⟩ := tree_par ht
  have hpl := fun W (hW : Below w.heap.size w W) => sPlace_any l ao cap p W hl (hA.stays hW)
  have H1 := hide (Box1.start w (.slice ao l.length cap) 43)
  have HA := hide hA
  have HTR := hide ht
  have HP := hide (And.intro p0 p1)
  clear hA ht p0 p1
  cases hp : placeB l p
  · have HF : Hid (mayCode l x p = 6) := ⟨by simp [mayCode, hp]⟩
    simp only [hp] at hpl
    clear hp
    go_enter Try.func120, Try.ntmps120
    go_wp2_with (first | (go_at_call 73; refine (hpl _ H1.out.below).mono ?_; rintro e w1 ⟨rfl, hb1⟩))
    go_ret
    exact ⟨by rw [HF.out]; rfl, (H1.out.step hb1).below⟩
  · simp only [hp] at hpl
    by_cases hpx : p = x
    · have HF : Hid (mayCode l x p = 10) := ⟨by simp [mayCode, hpx] at hp ⊢; simp [hp]⟩
      clear hp
      subst hpx
      go_enter Try.func120, Try.ntmps120
      go_wp2_with (first | (go_at_call 73; refine (hpl _ H1.out.below).mono ?_; rintro e w1 ⟨rfl, hb1⟩))
      go_ret
      exact ⟨by rw [HF.out]; rfl, (H1.out.step hb1).below⟩
    · have hpx' : (p == x) = false := by simpa using hpx
      by_cases h1 : 1 < p
      · have hen : Hid (endsF (par l) (l.length + 1) p = true) := ⟨by
          unfold placeB at hp
          cases e : nodOf l p with
          | none => rw [e] at hp; simp at hp; omega
          | some n => exact tree_ends HTR.out e⟩
        have hup := fun W (hW : Below w.heap.size w W) => sUp_any l ao cap p x W hl (HA.out.stays hW) HP.out.1 HP.out.2 hen.out
        cases hab : abF (par l) x (l.length + 1) p
        · have HF : Hid (mayCode l x p = 0) := ⟨by simp [mayCode, hp, hpx, hab]⟩
          simp only [hab] at hup
          clear hp hab
          go_enter Try.func120, Try.ntmps120
          go_wp2_with (first | (go_at_call 73; refine (hpl _ H1.out.below).mono ?_; rintro e w1 ⟨rfl, hb1⟩; have hbx := H1.out.step hb1; have H2 := hide hbx; have hc := hbx.cell; clear hbx hb1) | (go_at_call 74; refine (hup _ H2.out.below).mono ?_; rintro e w2 ⟨rfl, hb2⟩))
          go_ret
          exact ⟨by rw [HF.out]; rfl, (H2.out.step hb2).below⟩
        · have HF : Hid (mayCode l x p = 10) := ⟨by simp [mayCode, hp, hpx, hab]⟩
          simp only [hab] at hup
          clear hp hab
          go_enter Try.func120, Try.ntmps120
          go_wp2_with (first | (go_at_call 73; refine (hpl _ H1.out.below).mono ?_; rintro e w1 ⟨rfl, hb1⟩; have hbx := H1.out.step hb1; have H2 := hide hbx; have hc := hbx.cell; clear hbx hb1) | (go_at_call 74; refine (hup _ H2.out.below).mono ?_; rintro e w2 ⟨rfl, hb2⟩))
          go_ret
          exact ⟨by rw [HF.out]; rfl, (H2.out.step hb2).below⟩
      · have hab : abF (par l) x (l.length + 1) p = false := by
          have hn : nodOf l p = none := no_low (fun n hn => (nodOk_parts (HTR.out.2.2 n hn)).id) (by omega)
          simp [abF, hpx, par, hn]
        have HF : Hid (mayCode l x p = 0) := ⟨by simp [mayCode, hp, hpx, hab]⟩
        clear hp hab
        go_enter Try.func120, Try.ntmps120
        go_wp2_with (first | (go_at_call 73; refine (hpl _ H1.out.below).mono ?_; rintro e w1 ⟨rfl, hb1⟩))
        go_ret
        exact ⟨by rw [HF.out]; rfl, (H1.out.step hb1).below⟩
end Go.Proofs.Ytcpgkalafkhlgae.OpR
namespace Go.Proofs.Ytcpgkalafkhlgae.OpR
open Go.ChangeShapes Go.WideShapes Go.ChangeAt Go.RowKit
set_option linter.unusedVariables false

/-- Three variables of a tree's kind: the tree, the answer, the copy. -/
structure CpV (w c : World) (sv rv ov : Value) : Prop where
  below : Below w.heap.size w c
  tv : c.heap[w.heap.size]? = some (.cells #[sv] 43 (0, 0))
  rv : c.heap[w.heap.size + 1]? = some (.cells #[rv] 43 (0, 0))
  ov : c.heap[w.heap.size + 1 + 1]? = some (.cells #[ov] 43 (0, 0))
theorem CpV.lt {w c : World} {sv rv ov : Value} (h : CpV w c sv rv ov) : w.heap.size + 1 + 1 < c.heap.size := (Array.getElem?_eq_some_iff.1 h.ov).1
theorem CpV.step {w c c' : World} {sv rv ov : Value} (h : CpV w c sv rv ov) (hb : Below c.heap.size c c') : CpV w c' sv rv ov :=
  have hl := h.lt
  ⟨h.below.trans (hb.mono h.below.size), (hb.block _ (by omega)).trans h.tv, (hb.block _ (by omega)).trans h.rv, (hb.block _ (by omega)).trans h.ov⟩
theorem CpV.grown {w c c' : World} {sv rv ov : Value} {row : Option Nat} (h : CpV w c sv rv ov) (hg : c.grownBy c' row) (hr : ∀ k, row = some k → w.heap.size + 1 + 1 < k) : CpV w c' sv rv ov := by
  have hl := h.lt
  have hs := h.below.size
  have hne : ∀ k, k ≤ w.heap.size + 1 + 1 → some k ≠ row := fun k hk e => by have := hr k e.symm; omega
  exact ⟨⟨hg.os.trans h.below.os, hg.tape.trans h.below.tape, hg.output.trans h.below.output, Nat.le_trans hs hg.size, fun k hk => (hg.block k (by omega) (hne k (by omega))).trans (h.below.block k hk)⟩, (hg.block _ (by omega) (hne _ (by omega))).trans h.tv, (hg.block _ (by omega) (hne _ (by omega))).trans h.rv, (hg.block _ (by omega) (hne _ (by omega))).trans h.ov⟩
theorem CpV.set {w c : World} {sv rv ov : Value} (h : CpV w c sv rv ov) (x : Value) : CpV w (c.setCell ⟨w.heap.size + 1 + 1, 0, none⟩ x) sv rv x :=
  ⟨h.below.setCell (p := ⟨w.heap.size + 1 + 1, 0, none⟩) (show w.heap.size ≤ w.heap.size + 1 + 1 by omega) _, (Below.heap_setCell _ _ _ _ (show w.heap.size ≠ w.heap.size + 1 + 1 by omega)).trans h.tv, (Below.heap_setCell _ _ _ _ (show w.heap.size + 1 ≠ w.heap.size + 1 + 1 by omega)).trans h.rv, set_block h.ov 0 x⟩
theorem CpV.start (w : World) (sv rv ov : Value) : CpV w (((w.alloc (.cells #[sv] 43)).alloc (.cells #[rv] 43)).alloc (.cells #[ov] 43)) sv rv ov :=
  ⟨(((Below.refl _ _).alloc (Nat.le_refl _) _).alloc (by simp) _).alloc (by simp; omega) _, by
    rw [Below.heap_alloc _ _ _ (by simp; omega), Below.heap_alloc _ _ _ (by simp)]; exact heap_alloc_new w _, mid3 _ _ _ _, last3 _ _ _ _⟩
theorem Box4.grown {w c c' : World} {g : Nat} {n : NodG} {row : Option Nat} (h : Box4 w c g n) (hs : w.heap.size ≤ g) (hg : c.grownBy c' row) (hr : ∀ k, row = some k → g < k) : Box4 w c' g n := by
  have hl := (Array.getElem?_eq_some_iff.1 h.lies).1
  have hne : ∀ k, k ≤ g → some k ≠ row := fun k hk e => by have := hr k e.symm; omega
  exact ⟨⟨hg.os.trans h.below.os, hg.tape.trans h.below.tape, hg.output.trans h.below.output, Nat.le_trans h.below.size hg.size, fun k hk => (hg.block k (by have := h.below.size; omega) (hne k (by omega))).trans (h.below.block k hk)⟩, (hg.block _ hl (hne _ (Nat.le_refl _))).trans h.lies⟩
theorem empty_props (X : World) : (X.alloc (.cells #[] 118)).ownsRow X.heap.size 118 2 (.slice (some ⟨X.heap.size, 0, none⟩) 0 0) 0 [] :=
  World.ownsRow_made X #[] 0 (Nat.le_refl _) (by decide) rfl

set_option maxRecDepth 100000 in
set_option maxHeartbeats 1000000 in
theorem sCopy_any (l : List NodG) (ao : Option Addr) (cap : Nat) (w : World) (hl : l.length ≤ 1048576) (hA : NodesAt w ao l) (hS : ∀ n ∈ l, Sized1 1048576 n) :
    Calls Try.prog 62 #[.agg #[.slice ao l.length cap]] w fun e w' => ∃ v d, e = .returned (.agg #[v]) ∧ TreeOwn w' (w.heap.size + 1 + 1 + 1) v d ∧ d.map NodG.bare = l.map NodG.bare ∧ Below w.heap.size w w' := by
  have HA : Hid (NodesAt w ao l) := ⟨hA⟩
  have HS := hide hS
  clear hA hS
  obtain ⟨i0, hi, hz0, hz1, hz2⟩ := info_parts infoNode
  go_enter Try.func62, Try.ntmps62
  go_wp2
  go_loopw [4] (fun i wr => ∃ (d : List NodG) (v : Value), d.length ≤ l.length ∧ i = .int .i64 d.length ∧ Owned wr (w.heap.size + 1 + 1 + 1) v l d ∧ CpV w wr (.slice ao l.length cap) (.slice none 0 0) v) (fun i _ => l.length - (intOf i).toNat)
  case atStart => exact ⟨[], .slice none 0 0, by simp, rfl, ⟨⟨World.ownsRow_nil _ _ _ _, by simp, by simp, by simp⟩, by simp⟩, CpV.start _ _ _ _⟩
  case round =>
    obtain ⟨d, v, hk, rfl, hO, hV⟩ := hrel
    have HO := hide hO
    have HV := hide hV
    have hlt3 := hV.lt
    have hbs := hV.below.size
    have t0 := (cells1 hV.tv).1
    obtain ⟨k, hkd⟩ : ∃ k, d.length = k := ⟨_, rfl⟩
    have HK := hide hkd
    simp only [hkd] at hk ⊢
    clear hkd hO
    by_cases h : k < l.length
    · obtain ⟨b, off, rfl, hlt, ho, hp⟩ := HA.out k h
      obtain ⟨c0, c1, c2, c3⟩ := ho.block (w' := wr) (hV.below.block b hlt)
      have hsz := HS.out _ (List.getElem_mem h)
      have HP := hide (hp.stays hV.below)
      obtain ⟨n, hn⟩ : ∃ n, l[k] = n := ⟨_, rfl⟩
      rw [hn] at c0 c1 c2 c3 hsz HP
      have HE := hide hn
      obtain ⟨hs1, hs2, hs3⟩ := hsz
      have hi0 : (0 : Int) ≤ (k : Int) := by omega
      have hi1 : (k : Int) < (l.length : Int) := by omega
      have H0 := hide (Box4.start wr n)
      have hHW : Below wr.heap.size wr ((wr.alloc (.cells #[.int .i64 n.id, .int .i64 n.parent, .string n.name, .slice n.pao n.props.length n.pcap] 79)).alloc (.cells #[] 118)) := H0.out.below.alloc H0.out.below.size _
      have HEP : Hid (((wr.alloc (.cells #[.int .i64 n.id, .int .i64 n.parent, .string n.name, .slice n.pao n.props.length n.pcap] 79)).alloc (.cells #[] 118)).ownsRow (wr.heap.size + 1) 118 2 (.slice (some ⟨wr.heap.size + 1, 0, none⟩) 0 0) ([] : List PropV).length (flatG PropV.cells [])) := ⟨by simpa [flatG] using empty_props (wr.alloc (.cells #[.int .i64 n.id, .int .i64 n.parent, .string n.name, .slice n.pao n.props.length n.pcap] 79))⟩
      have HPA := hide (HP.out.stays hHW)
      have HBX : Hid (Box4 wr ((wr.alloc (.cells #[.int .i64 n.id, .int .i64 n.parent, .string n.name, .slice n.pao n.props.length n.pcap] 79)).alloc (.cells #[] 118)) wr.heap.size n) := ⟨H0.out.step ((Below.refl _ _).alloc (Nat.le_refl _) _)⟩
      clear ho hp hn hs1 hs3 hV hHW HP
      go_wp2_with (first | (at_builtin; refine wpList_append_P rfl _ _ rfl (wr.heap.size + 1) (.slice (some ⟨wr.heap.size + 1, 0, none⟩) 0 0) [] rfl HEP.out n.pao n.props n.pcap rfl HPA.out (by simp; omega) (by simp) ?_; intro v2 x2 ho2 hg2 hnn2; clear hnn2; simp only [List.nil_append] at ho2; obtain ⟨ao2, cp2, rfl, _, _⟩ := owns_atP ho2; have HO2 := hide ho2; have H2 := hide (HBX.out.grown (Nat.le_refl _) hg2 (fun j hj => by simp [Value.ownBlock] at hj; omega)); obtain ⟨k0, k1, k2, k3, f0, f1, f2, f3⟩ := cells4 H2.out.lies; clear ho2 hg2 c0 c1 c2 c3 t0 HEP HPA HBX; have HOW := hide (own_row H2.out HO.out.own.row HK.out ao2 cp2 (.cells #[.int .i64 n.id, .int .i64 n.parent, .string n.name, .slice ao2 n.props.length cp2] 79)); have HNW := hide (new4s x2 wr.heap.size n ao2 cp2); have hY2 := H2.out.below.size; have HV3 := hide (HV.out.step (H2.out.set3 (Nat.le_refl _) ao2 cp2).below); have e0 := (cells1 HV3.out.ov).1) | (at_builtin; refine wpList_append_lies _ rfl _ _ 41 rfl (w.heap.size + 1 + 1 + 1) 79 i0 _ 4 56 Try.underlying41 hi hz0 hz1 hz2 rfl (by decide) _ k (flatG NodG.cells d) rfl HOW.out ⟨x2.heap.size, 0, none⟩ 1 1 (NodG.cells ⟨n.id, n.parent, n.name, n.props, ao2, cp2⟩) rfl rfl HNW.out (one4g _) (by omega) (by unfold maxLen; omega) (by omega) (by simp [World.setCell]; omega) (x2.heap.size + 1) (by simp [World.setCell]) ?_; intro gn cn y1 hown hgrow hatn hltn; have HV4 := hide ((HV3.out.step ((Below.refl _ _).alloc (Nat.le_refl _) _)).grown hgrow (fun j hj => by have := (HO.out.own.row.lt j hj).1; omega)); have e1 := (cells1 HV4.out.ov).1; have e2 := (cells1 HV4.out.ov).2; clear e0 k0 k1 k2 k3 f0 f1 f2 f3; have HGR := hide hgrow; have HOWN := hide hown; have HATN := hide hatn; clear hgrow hown hatn))
      have hTO : TreeOwn y1 (w.heap.size + 1 + 1 + 1) (.slice (some ⟨gn, 0, none⟩) (k + 1) cn) (d ++ [⟨n.id, n.parent, n.name, n.props, ao2, cp2⟩]) := by
        refine HO.out.own.snoc (n := ⟨n.id, n.parent, n.name, n.props, ao2, cp2⟩) (H2.out.set3 (Nat.le_refl _) ao2 cp2).below (owns_lower (ownsRow_setCell_below HO2.out (Nat.lt_succ_self _) _) (Nat.le_succ _)) (by omega) HGR.out ?_ ?_
        · rcases HATN.out with e | e
          · exact .inl e.symm
          · right
            simp [Value.ownBlock, World.setCell, e]
        · have hown := HOWN.out
          rw [HK.out, flatG_app]
          simpa [flatG] using hown
      have HTO := hide (hTO.moved (w' := y1.setCell ⟨w.heap.size + 1 + 1, 0, none⟩ (.slice (some ⟨gn, 0, none⟩) (k + 1) cn)) (fun g hg => Below.heap_setCell _ _ _ _ (show g ≠ w.heap.size + 1 + 1 by omega)))
      have HV5 := hide (HV4.out.set (.slice (some ⟨gn, 0, none⟩) (k + 1) cn))
      clear hTO e1 e2
      go_roundw
      case rel =>
        refine ⟨d ++ [⟨n.id, n.parent, n.name, n.props, ao2, cp2⟩], _, by simp [HK.out]; omega, by simp [HK.out], ⟨HTO.out, ?_⟩, HV5.out⟩
        have hd : d.length < l.length := by rw [HK.out]; exact h
        rw [List.length_append, List.map_append, HO.out.bare]
        simp only [List.length_cons, List.length_nil, Nat.zero_add, List.map_cons, List.map_nil, List.map_take]
        rw [List.take_add_one, List.getElem?_eq_getElem (by simpa using hd)]
        have e : (List.map NodG.bare l)[d.length]'(by simpa using hd) = NodG.bare ⟨n.id, n.parent, n.name, n.props, ao2, cp2⟩ := by
          rw [List.getElem_map]
          simp only [HK.out, HE.out]
          rfl
        rw [e]
        rfl
      case measure => simp [intOf]; omega
    · obtain rfl : k = l.length := by omega
      obtain ⟨a5, c5, rfl, _, _⟩ := owns_atN HO.out.own.row
      have HF := hide HO.out.own
      have e0 := (cells1 HV.out.ov).1
      have r0 := (cells1 HV.out.rv).1
      have r1 := (cells1 HV.out.rv).2
      clear hV
      go_wp2
      refine bodyPost_ret (v := .agg #[.slice a5 d.length c5]) (by simp [results, Try.results62, go_sem, r0]) rfl ⟨_, d, rfl, HF.out.moved (fun g hg => Below.heap_setCell _ _ _ _ (show g ≠ w.heap.size + 1 by omega)), by have := HO.out.bare; rwa [HK.out, List.take_length] at this, HV.out.below.setCell (p := ⟨w.heap.size + 1, 0, none⟩) (show w.heap.size ≤ w.heap.size + 1 by omega) _⟩
end Go.Proofs.Ytcpgkalafkhlgae.OpR
