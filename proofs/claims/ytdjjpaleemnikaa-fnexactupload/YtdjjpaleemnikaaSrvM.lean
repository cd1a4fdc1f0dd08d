/- A server as a Lean value, and what is asked of it (plain). -/
import Derived.Test.YtdjjpaleemnikaaSgM
namespace Go.Proofs.Ytdjjpaleemnikaa.OpR
open Go.ChangeShapes Go.WideShapes Go.ChangeAt Go.RowKit
set_option linter.unusedVariables false

/-- How many were seen of a replica. -/
structure SeenV where
  repl : Int
  many : Int
structure SrvV where
  ops : List OpV
  seen : List SeenV
def SrvV.zero : SrvV := ⟨[], []⟩
def sgPutOp (m : List (Int × SgtV)) (o : OpV) : List (Int × SgtV) := sgPut m o.repl ⟨(sgOf m o.repl).many + 1, o⟩
/-- What was seen, as ops come one by one. -/
def seenGo (m : List (Int × SgtV)) : List OpV → Option (List (Int × SgtV))
  | [] => some m
  | o :: r => if ahead (sgOf m o.repl).last o = true then seenGo (sgPutOp m o) r else none
def seenL (m : List (Int × SgtV)) : List SeenV := m.map fun p => ⟨p.1, p.2.many⟩
def sameSeen (x y : SeenV) : Bool := decide (x.repl = y.repl) && decide (x.many = y.many)
theorem sameSeen_iff (x y : SeenV) : sameSeen x y = true ↔ x = y := by
  obtain ⟨a, b⟩ := x
  obtain ⟨c, d⟩ := y
  simp [sameSeen]
def sameS : List SeenV → List SeenV → Bool
  | [], [] => true
  | a :: x, b :: y => sameSeen a b && sameS x y
  | _, _ => false
theorem sameS_iff : ∀ (x y : List SeenV), sameS x y = true ↔ x = y
  | [], [] => by simp [sameS]
  | [], b :: y => by simp [sameS]
  | a :: x, [] => by simp [sameS]
  | a :: x, b :: y => by
    show (sameSeen a b && sameS x y) = true ↔ _
    rw [Bool.and_eq_true, sameSeen_iff, sameS_iff x y, List.cons.injEq]
def seenFit (s : SrvV) : Option (List (Int × SgtV)) → Bool
  | none => false
  | some m => sameS s.seen (seenL m)
def srvRight (s : SrvV) : Bool := opsRight s.ops && seenFit s (seenGo [] s.ops)
def lastO (l : List OpV) : OpV := l.getLast?.getD OpV.zero
/-- What the map holds of the ops that have come. -/
structure SeenInv (l : List OpV) (m : List (Int × SgtV)) : Prop where
  rise : RiseG m
  at_ : ∀ r, sgAt m r = if ownB l r = [] then none else some ⟨(ownB l r).length, lastO (ownB l r)⟩
  ord : ∀ r, Strict (ownB l r)
theorem SeenInv.nil : SeenInv [] [] := ⟨List.Pairwise.nil, fun r => by simp [ownB, sgAt], fun r => List.Pairwise.nil⟩
theorem own_app (p r : List OpV) (x : Int) : ownB (p ++ r) x = ownB p x ++ ownB r x := List.filter_append _ _
theorem own_cons (o : OpV) (r : List OpV) (x : Int) : ownB (o :: r) x = if o.repl = x then o :: ownB r x else ownB r x := by
  unfold ownB
  rw [List.filter_cons]
  by_cases h : o.repl = x <;> simp [h]
theorem own_one (o : OpV) (x : Int) : ownB [o] x = if o.repl = x then [o] else [] := own_cons o [] x
theorem lastO_snoc (l : List OpV) (o : OpV) : lastO (l ++ [o]) = o := by simp [lastO]
theorem lastO_mem {l : List OpV} (h : l ≠ []) : lastO l ∈ l := by
  unfold lastO
  cases e : l.getLast? with
  | none => exact absurd (List.getLast?_eq_none_iff.1 e) h
  | some x => exact List.mem_of_getLast? e
theorem zero_ahead {o : OpV} (h : 1 ≤ o.time) : ahead OpV.zero o = true := (ahead_iff _ _).2 (.inl (by show (0 : Int) < o.time; omega))
theorem SeenInv.sg {l : List OpV} {m : List (Int × SgtV)} (h : SeenInv l m) (r : Int) : sgOf m r = ⟨(ownB l r).length, lastO (ownB l r)⟩ := by
  unfold sgOf
  rw [h.at_ r]
  by_cases e : ownB l r = []
  · rw [if_pos e, e]; rfl
  · rw [if_neg e]; rfl
theorem SeenInv.snoc {l : List OpV} {m : List (Int × SgtV)} (h : SeenInv l m) {o : OpV} (ho : ahead (sgOf m o.repl).last o = true) : SeenInv (l ++ [o]) (sgPutOp m o) := by
  have hs := h.sg o.repl
  rw [hs] at ho
  refine ⟨sgPut_rise h.rise _ _, fun r => ?_, fun r => ?_⟩
  · rw [own_app, own_one]
    unfold sgPutOp
    by_cases e : o.repl = r
    · subst e
      rw [if_pos rfl, sgAt_put_same, if_neg (by simp), lastO_snoc, hs]
      simp
    · rw [if_neg e, List.append_nil, sgAt_put_other _ _ (fun e2 => e e2.symm), h.at_ r]
  · rw [own_app, own_one]
    by_cases e : o.repl = r
    · subst e
      rw [if_pos rfl]
      exact strict_snoc (h.ord _) fun x hx => by rw [show x = lastO (ownB l o.repl) by simp [lastO, hx]]; exact ho
    · rw [if_neg e, List.append_nil]; exact h.ord r
theorem go_inv : ∀ (r p : List OpV) (m : List (Int × SgtV)), SeenInv p m → (∀ o ∈ r, 1 ≤ o.time) →
    (∃ m', seenGo m r = some m' ∧ SeenInv (p ++ r) m') ∨ (seenGo m r = none ∧ ¬ ∀ x, Strict (ownB (p ++ r) x))
  | [], p, m, h, _ => .inl ⟨m, rfl, by rw [List.append_nil]; exact h⟩
  | o :: r, p, m, h, ht => by
    unfold seenGo
    by_cases ho : ahead (sgOf m o.repl).last o = true
    · rw [if_pos ho]
      have h2 := go_inv r (p ++ [o]) (sgPutOp m o) (h.snoc ho) (fun x hx => ht x (by simp [hx]))
      rw [List.append_assoc, List.singleton_append] at h2
      exact h2
    · rw [if_neg ho]
      refine .inr ⟨rfl, fun hall => ho ?_⟩
      rw [h.sg o.repl]
      show ahead (lastO (ownB p o.repl)) o = true
      by_cases e : ownB p o.repl = []
      · rw [e]; exact zero_ahead (ht o (by simp))
      · have h3 := hall o.repl
        rw [own_app, own_cons, if_pos rfl] at h3
        exact (List.pairwise_append.1 h3).2.2 _ (lastO_mem e) o (by simp)
theorem go_all {l : List OpV} (ht : ∀ o ∈ l, 1 ≤ o.time) : (∃ m, seenGo [] l = some m ∧ SeenInv l m) ∨ (seenGo [] l = none ∧ ¬ ∀ x, Strict (ownB l x)) := by
  have h := go_inv l [] [] SeenInv.nil ht
  simpa using h
theorem sgAt_mem {m : List (Int × SgtV)} {r : Int} {n : SgtV} (h : sgAt m r = some n) : (r, n) ∈ m := by
  unfold sgAt at h
  obtain ⟨p, hp, e⟩ := Option.map_eq_some_iff.1 h
  have h1 := List.mem_of_find?_eq_some hp
  have h2 : p.1 = r := by simpa using List.find?_some hp
  rw [← h2, ← e]
  exact h1
theorem sgAt_of : ∀ {m : List (Int × SgtV)}, RiseG m → ∀ {p : Int × SgtV}, p ∈ m → sgAt m p.1 = some p.2
  | [], _, p, hp => absurd hp (by simp)
  | q :: m, hr, p, hp => by
    have hr' := List.pairwise_cons.1 hr
    unfold sgAt
    rw [List.find?_cons]
    rcases List.mem_cons.1 hp with rfl | hp
    · simp
    · have h1 := hr'.1 p hp
      rw [show decide (q.1 = p.1) = false by simp; omega]
      exact sgAt_of hr'.2 hp
def sumS : List SeenV → Int
  | [] => 0
  | x :: r => x.many + sumS r
theorem sumS_app (a : List SeenV) (x : SeenV) : sumS (a ++ [x]) = sumS a + x.many := by
  induction a with
  | nil => simp [sumS]
  | cons y a ih => rw [List.cons_append, sumS, ih, sumS]; omega
theorem filter_or_len (a b : OpV → Bool) (h : ∀ o, a o = true → b o = false) : ∀ (l : List OpV), (l.filter fun o => a o || b o).length = (l.filter a).length + (l.filter b).length
  | [] => rfl
  | o :: l => by
    have ih := filter_or_len a b h l
    rw [List.filter_cons, List.filter_cons, List.filter_cons]
    cases ha : a o
    · cases hb : b o
      · simpa using ih
      · simp only [Bool.false_or, if_true, List.length_cons, Bool.false_eq_true, if_false]; omega
    · rw [h o ha]
      simp only [Bool.true_or, if_true, List.length_cons, Bool.false_eq_true, if_false]; omega
def seenHas (s : List SeenV) (o : OpV) : Bool := s.any fun x => decide (o.repl = x.repl)
theorem sum_is {l : List OpV} : ∀ {s : List SeenV}, s.Pairwise (fun a b => a.repl < b.repl) → (∀ x ∈ s, x.many = ((ownB l x.repl).length : Int)) → sumS s = ((l.filter (seenHas s)).length : Int)
  | [], _, _ => by
    have : l.filter (seenHas []) = [] := List.filter_eq_nil_iff.2 fun o _ => by simp [seenHas]
    rw [this]; rfl
  | x :: s, hr, hm => by
    have hr' := List.pairwise_cons.1 hr
    have ih := sum_is hr'.2 (fun y hy => hm y (by simp [hy]))
    have e : l.filter (seenHas (x :: s)) = l.filter fun o => decide (o.repl = x.repl) || seenHas s o := List.filter_congr fun o _ => by simp [seenHas]
    rw [e, filter_or_len _ _ (fun o ho => by
      have ho' : o.repl = x.repl := by simpa using ho
      unfold seenHas
      rw [List.any_eq_false]
      intro y hy
      have := hr'.1 y hy
      simp; omega)]
    rw [sumS, ih, hm x (by simp)]
    unfold ownB
    omega
theorem sum_le {l : List OpV} {s : List SeenV} (h1 : s.Pairwise (fun a b => a.repl < b.repl)) (h2 : ∀ x ∈ s, x.many = ((ownB l x.repl).length : Int)) : sumS s ≤ l.length := by
  rw [sum_is h1 h2]
  have := List.length_filter_le (seenHas s) l
  omega
theorem rise_ext : ∀ (a b : List SeenV), a.Pairwise (fun a b => a.repl < b.repl) → b.Pairwise (fun a b => a.repl < b.repl) → (∀ x, x ∈ a ↔ x ∈ b) → a = b
  | [], [], _, _, _ => rfl
  | [], y :: b, _, _, h => absurd ((h y).2 (by simp)) (by simp)
  | x :: a, [], _, _, h => absurd ((h x).1 (by simp)) (by simp)
  | x :: a, y :: b, ha, hb, h => by
    have ha' := List.pairwise_cons.1 ha
    have hb' := List.pairwise_cons.1 hb
    have e : x = y := by
      rcases List.mem_cons.1 ((h x).1 (by simp)) with e | hx
      · exact e
      · rcases List.mem_cons.1 ((h y).2 (by simp)) with e | hy
        · exact e.symm
        · have h1 := hb'.1 x hx
          have h2 := ha'.1 y hy
          omega
    subst e
    rw [rise_ext a b ha'.2 hb'.2 fun z => ?_]
    constructor
    · intro hz
      rcases List.mem_cons.1 ((h z).1 (by simp [hz])) with e | hz'
      · have := ha'.1 z hz; rw [e] at this; omega
      · exact hz'
    · intro hz
      rcases List.mem_cons.1 ((h z).2 (by simp [hz])) with e | hz'
      · have := hb'.1 z hz; rw [e] at this; omega
      · exact hz'
/-- What a right server keeps to. -/
structure SrvR (s : SrvV) : Prop where
  ops : OpsR s.ops
  many : ∀ x ∈ s.seen, 1 ≤ x.many ∧ x.many = ((ownB s.ops x.repl).length : Int) ∧ Strict (ownB s.ops x.repl)
  rise : s.seen.Pairwise fun a b => a.repl < b.repl
  all : sumS s.seen = (s.ops.length : Int)
theorem ops_times {l : List OpV} (h : OpsR l) : ∀ o ∈ l, 1 ≤ o.time := by
  intro o ho
  obtain ⟨j, hj, rfl⟩ := List.getElem_of_mem ho
  have h1 := h.2.1 j hj
  unfold opRight isIn at h1
  simp only [Bool.and_eq_true, decide_eq_true_eq] at h1
  omega
theorem seen_all {l : List OpV} {s : List SeenV} (h1 : s.Pairwise (fun a b => a.repl < b.repl)) (h2 : ∀ x ∈ s, x.many = ((ownB l x.repl).length : Int)) : sumS s = (l.length : Int) ↔ ∀ o ∈ l, ∃ x ∈ s, o.repl = x.repl := by
  rw [sum_is h1 h2]
  have e : ((l.filter (seenHas s)).length : Int) = (l.length : Int) ↔ (l.filter (seenHas s)).length = l.length := by omega
  rw [e, List.length_filter_eq_length_iff]
  unfold seenHas
  simp only [List.any_eq_true, decide_eq_true_eq]
theorem own_ne {l : List OpV} {r : Int} (h : ownB l r ≠ []) : ∃ o ∈ l, o.repl = r := by
  obtain ⟨o, r', e⟩ := List.exists_cons_of_ne_nil h
  have ho : o ∈ ownB l r := by rw [e]; simp
  have := List.mem_filter.1 ho
  exact ⟨o, this.1, by simpa using this.2⟩
theorem own_pos {l : List OpV} {o : OpV} (h : o ∈ l) : ownB l o.repl ≠ [] := fun e => by
  have : o ∈ ownB l o.repl := List.mem_filter.2 ⟨h, by simp⟩
  rw [e] at this; exact absurd this (by simp)
theorem seenL_rise {m : List (Int × SgtV)} (h : RiseG m) : (seenL m).Pairwise fun a b => a.repl < b.repl := by
  unfold seenL
  rw [List.pairwise_map]
  exact h
theorem SeenInv.srv {s : SrvV} {m : List (Int × SgtV)} (hI : SeenInv s.ops m) (hO : OpsR s.ops) (he : s.seen = seenL m) : SrvR s := by
  have hm : ∀ x ∈ s.seen, 1 ≤ x.many ∧ x.many = ((ownB s.ops x.repl).length : Int) ∧ Strict (ownB s.ops x.repl) := by
    intro x hx
    rw [he] at hx
    obtain ⟨p, hp, rfl⟩ := List.mem_map.1 hx
    have h1 := sgAt_of hI.rise hp
    rw [hI.at_ p.1] at h1
    by_cases e : ownB s.ops p.1 = []
    · rw [if_pos e] at h1; cases h1
    · rw [if_neg e] at h1
      have h2 := congrArg SgtV.many (Option.some.inj h1)
      have h3 := List.length_pos_iff.2 e
      exact ⟨by show 1 ≤ p.2.many; rw [← h2]; show (1 : Int) ≤ ((ownB s.ops p.1).length : Int); omega, h2.symm, hI.ord _⟩
  have hr : s.seen.Pairwise fun a b => a.repl < b.repl := by rw [he]; exact seenL_rise hI.rise
  refine ⟨hO, hm, hr, (seen_all hr (fun x hx => (hm x hx).2.1)).2 fun o ho => ?_⟩
  have h1 := hI.at_ o.repl
  rw [if_neg (own_pos ho)] at h1
  have h2 := sgAt_mem h1
  exact ⟨⟨o.repl, _⟩, by rw [he]; exact List.mem_map.2 ⟨_, h2, rfl⟩, rfl⟩
theorem SrvR.inv {s : SrvV} (h : SrvR s) : ∃ m, seenGo [] s.ops = some m ∧ SeenInv s.ops m ∧ s.seen = seenL m := by
  have hall := (seen_all h.rise (fun x hx => (h.many x hx).2.1)).1 h.all
  have hst : ∀ r, Strict (ownB s.ops r) := by
    intro r
    by_cases e : ownB s.ops r = []
    · rw [e]; exact List.Pairwise.nil
    · obtain ⟨o, ho, rfl⟩ := own_ne e
      obtain ⟨x, hx, e2⟩ := hall o ho
      rw [e2]; exact (h.many x hx).2.2
  rcases go_all (ops_times h.ops) with ⟨m, h1, h2⟩ | ⟨_, h2⟩
  · refine ⟨m, h1, h2, rise_ext _ _ h.rise (seenL_rise h2.rise) fun x => ⟨fun hx => ?_, fun hx => ?_⟩⟩
    · obtain ⟨a1, a2, _⟩ := h.many x hx
      have hne : ownB s.ops x.repl ≠ [] := fun e => by rw [e] at a2; simp at a2; omega
      have h3 := h2.at_ x.repl
      rw [if_neg hne] at h3
      refine List.mem_map.2 ⟨_, sgAt_mem h3, ?_⟩
      obtain ⟨a, b⟩ := x
      simp only at a2 ⊢
      rw [a2]
    · obtain ⟨p, hp, rfl⟩ := List.mem_map.1 hx
      have h3 := sgAt_of h2.rise hp
      rw [h2.at_ p.1] at h3
      by_cases e : ownB s.ops p.1 = []
      · rw [if_pos e] at h3; cases h3
      · rw [if_neg e] at h3
        obtain ⟨o, ho, e2⟩ := own_ne e
        obtain ⟨x, hx, e3⟩ := hall o ho
        obtain ⟨_, a2, _⟩ := h.many x hx
        have h4 := congrArg SgtV.many (Option.some.inj h3)
        have h5 : x = ⟨p.1, p.2.many⟩ := by
          obtain ⟨a, b⟩ := x
          simp only at a2 e3
          simp only [SeenV.mk.injEq]
          refine ⟨by omega, ?_⟩
          rw [a2, ← h4, ← e3, e2]
        rw [← h5]; exact hx
  · exact absurd hst h2
theorem srv_iff (s : SrvV) : srvRight s = true ↔ SrvR s := by
  unfold srvRight
  rw [Bool.and_eq_true]
  constructor
  · rintro ⟨h1, h2⟩
    have hO := (ops_iff _).1 h1
    rcases go_all (ops_times hO) with ⟨m, e, hI⟩ | ⟨e, _⟩
    · rw [e] at h2
      exact hI.srv hO ((sameS_iff _ _).1 h2)
    · rw [e] at h2; cases h2
  · intro h
    obtain ⟨m, e, hI, he⟩ := h.inv
    refine ⟨(ops_iff _).2 h.ops, ?_⟩
    rw [e]
    exact (sameS_iff _ _).2 he
theorem srv_yes {s : SrvV} (h : SrvR s) : srvRight s = true := (srv_iff s).2 h
theorem srv_no {s : SrvV} (h : ¬ SrvR s) : srvRight s = false := bool_no (srv_iff s) h
end Go.Proofs.Ytdjjpaleemnikaa.OpR
