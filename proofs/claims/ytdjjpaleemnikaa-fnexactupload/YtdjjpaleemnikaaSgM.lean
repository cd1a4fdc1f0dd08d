/- A map of what was seen by replicas: what it holds is a list of pairs, and what is read of it and put to it. -/
import Derived.Test.YtdjjpaleemnikaaCliA
import Derived.Maps.OwnSet
import Derived.Maps.RangeWalk
namespace Go.Proofs.Ytdjjpaleemnikaa.OpR
open Go.ChangeShapes Go.WideShapes Go.ChangeAt Go.RowKit
set_option linter.unusedVariables false

/-- What was seen of one replica. -/
structure SgtV where
  many : Int
  last : OpV
def SgtV.zero : SgtV := ⟨0, OpV.zero⟩
def SgtV.agg (s : SgtV) : Value := .agg #[.int .i64 s.many, .int .i64 s.last.time, .int .i64 s.last.repl, .int .i64 s.last.kind, .int .i64 s.last.node, .int .i64 s.last.parent, .string s.last.name, .string s.last.value]
/-- An element of the map is held as it is. -/
def rdG (v : Value) : Option (DataW Value × List MemPlace) := some (.held v, [])
def sgD (m : List (Int × SgtV)) : DataW Value := .map (m.map fun p => (Lit.int .i64 p.1, DataW.held p.2.agg))
def sgAt (m : List (Int × SgtV)) (x : Int) : Option SgtV := (m.find? fun p => decide (p.1 = x)).map Prod.snd
def sgIns (x : Int) (n : SgtV) : List (Int × SgtV) → List (Int × SgtV)
  | [] => [(x, n)]
  | q :: r => if x < q.1 then (x, n) :: q :: r else q :: sgIns x n r
def sgDel (m : List (Int × SgtV)) (x : Int) : List (Int × SgtV) := m.filter fun p => !decide (p.1 = x)
def sgPut (m : List (Int × SgtV)) (x : Int) (n : SgtV) : List (Int × SgtV) := sgIns x n (sgDel m x)
theorem sg_same (a b : Int) : (Lit.int .i64 a).sameKey (Lit.int .i64 b) = decide (a = b) := by simp [Lit.sameKey]
theorem sgD_del (m : List (Int × SgtV)) (x : Int) : (sgD m).del (.int .i64 x) = sgD (sgDel m x) := by
  unfold sgD sgDel DataW.del
  simp only [List.filter_map, DataW.map.injEq]
  congr 1
  refine List.filter_congr fun p _ => ?_
  simp [sg_same]
theorem sgD_ins (x : Int) (n : SgtV) : ∀ (m : List (Int × SgtV)), DataW.insert (Lit.int .i64 x, DataW.held n.agg) (m.map fun p => (Lit.int .i64 p.1, DataW.held p.2.agg)) = (sgIns x n m).map fun p => (Lit.int .i64 p.1, DataW.held p.2.agg)
  | [] => rfl
  | q :: r => by
    simp only [List.map_cons, DataW.insert, sgIns, Lit.before, decide_eq_true_eq]
    by_cases h : x < q.1
    · rw [if_pos h, if_pos h]; rfl
    · rw [if_neg h, if_neg h, List.map_cons, sgD_ins x n r]
theorem sgD_put (m : List (Int × SgtV)) (x : Int) (n : SgtV) : (sgD m).put (.int .i64 x) (.held n.agg) = sgD (sgPut m x n) := by
  have h := sgD_del m x
  unfold sgD DataW.del at h
  unfold sgD sgPut DataW.put
  simp only [DataW.map.injEq] at h ⊢
  rw [h, sgD_ins]
theorem sgD_find (m : List (Int × SgtV)) (x : Int) : (m.map fun p => (Lit.int .i64 p.1, DataW.held p.2.agg)).find? (fun p => p.1.sameKey (.int .i64 x)) = (m.find? fun p => decide (p.1 = x)).map fun p => (Lit.int .i64 p.1, DataW.held p.2.agg) := by
  induction m with
  | nil => rfl
  | cons q r ih =>
    rw [List.map_cons, List.find?_cons, List.find?_cons, sg_same, ih]
    cases decide (q.1 = x) <;> rfl
theorem sgD_some {m : List (Int × SgtV)} {x : Int} {n : SgtV} (h : sgAt m x = some n) (z : DataW Value) : (sgD m).atKey (.int .i64 x) z = .held n.agg := by
  unfold sgAt at h
  unfold sgD DataW.atKey
  simp only [sgD_find]
  cases e : m.find? (fun p => decide (p.1 = x)) with
  | none => rw [e] at h; cases h
  | some p => rw [e] at h; cases h; rfl
theorem sgD_none {m : List (Int × SgtV)} {x : Int} (h : sgAt m x = none) (z : DataW Value) : (sgD m).atKey (.int .i64 x) z = z := by
  unfold sgAt at h
  unfold sgD DataW.atKey
  simp only [sgD_find]
  cases e : m.find? (fun p => decide (p.1 = x)) with
  | none => rfl
  | some p => rw [e] at h; cases h
theorem sgD_has (m : List (Int × SgtV)) (x : Int) : Maps.has (sgD m) (.int .i64 x) = (sgAt m x).isSome := by
  cases h : sgAt m x with
  | none => exact Maps.has_false_of_atKey (sgD_none h)
  | some n => exact Maps.has_true_of_atKey (sgD_some h)
theorem sgD_size (m : List (Int × SgtV)) : Maps.size (sgD m) = m.length := by simp [Maps.size, sgD]

theorem sgLaw : Maps.Keyed Try.prog 2 := Maps.int_keyed Try.underlying2
theorem zeroG (w : World) : (zeroValue 81).run Try.prog w = .ok SgtV.zero.agg w := by kernel_rfl
/-- The map in block B holds just these. -/
def SgAt (w : World) (B : Nat) (m : List (Int × SgtV)) : Prop := w.ownsMap Try.prog 2 rdG B m.length (sgD m)
theorem SgAt.of {w : World} {B n : Nat} {m : List (Int × SgtV)} (h : w.ownsMap Try.prog 2 rdG B n (sgD m)) : SgAt w B m := by
  obtain ⟨es, clock, hb, F, hs, hD⟩ := h
  refine ⟨es, clock, hb, F, ?_, hD⟩
  have := congrArg Maps.size hD
  rw [sgD_size] at this
  simp only [Maps.size, length_sorted, List.length_map, Array.length_toList] at this
  omega
theorem SgAt.lt {w : World} {B : Nat} {m : List (Int × SgtV)} (h : SgAt w B m) : B < w.heap.size := World.ownsMap.lt h
theorem SgAt.block {w w' : World} {B : Nat} {m : List (Int × SgtV)} (h : SgAt w B m) (e : w'.heap[B]? = w.heap[B]?) : SgAt w' B m := by
  obtain ⟨es, clock, hb, r⟩ := h
  exact ⟨es, clock, e.trans hb, r⟩
theorem SgAt.stays {w w' : World} {B : Nat} {m : List (Int × SgtV)} (h : SgAt w B m) (hb : Below w.heap.size w w') : SgAt w' B m := h.block (hb.block B h.lt)
theorem SgAt.below {w w' : World} {B C : Nat} {m : List (Int × SgtV)} (h : SgAt w B m) (hb : Below C w w') (hB : B < C) : SgAt w' B m := h.block (hb.block B hB)
theorem SgAt.made (w : World) : SgAt (w.alloc (.map #[] 0)) w.heap.size [] := World.ownsMap_made w _ _ _
theorem sg_key {x : Int} (h : -9223372036854775808 ≤ x ∧ x ≤ 9223372036854775807) : keyOf Try.prog 2 (.int .i64 x) = some (.int .i64 x) :=
  Maps.keyOf_int_mk Try.underlying2 (by simp [Lit.wf, IntKind.min, IntKind.max, IntKind.signed, IntKind.bits]; omega)

/-- Keys in order. -/
def RiseG (m : List (Int × SgtV)) : Prop := m.Pairwise fun a b => a.1 < b.1
theorem sgAt_none {m : List (Int × SgtV)} {x : Int} (h : sgAt m x = none) : ∀ p ∈ m, p.1 ≠ x := by
  unfold sgAt at h
  rw [Option.map_eq_none_iff, List.find?_eq_none] at h
  intro p hp
  simpa using h p hp
theorem sgDel_self {m : List (Int × SgtV)} {x : Int} (h : ∀ p ∈ m, p.1 ≠ x) : sgDel m x = m := List.filter_eq_self.2 fun p hp => by simpa using h p hp
theorem sgDel_ins {x : Int} {n : SgtV} : ∀ {m : List (Int × SgtV)}, (∀ p ∈ m, p.1 ≠ x) → sgDel (sgIns x n m) x = m
  | [], _ => by simp [sgIns, sgDel]
  | q :: r, h => by
    unfold sgIns
    split
    · have : sgDel ((x, n) :: q :: r) x = sgDel (q :: r) x := by simp [sgDel]
      rw [this]; exact sgDel_self h
    · have hq := h q (by simp)
      have : sgDel (q :: sgIns x n r) x = q :: sgDel (sgIns x n r) x := by simp [sgDel, hq]
      rw [this, sgDel_ins (fun p hp => h p (by simp [hp]))]
theorem sgDel_no (m : List (Int × SgtV)) (x : Int) : ∀ p ∈ sgDel m x, p.1 ≠ x := fun p hp => by
  have := (List.mem_filter.1 hp).2
  simpa using this
theorem sgDel_put (m : List (Int × SgtV)) (x : Int) (n : SgtV) : sgDel (sgPut m x n) x = sgDel m x := sgDel_ins (sgDel_no m x)
theorem sg_back_none {m : List (Int × SgtV)} {x : Int} {n : SgtV} (h : sgAt m x = none) : sgDel (sgPut m x n) x = m := by
  rw [sgDel_put, sgDel_self (sgAt_none h)]
/-- A node that is there, put there. -/
theorem sgIns_back {x : Int} {n : SgtV} : ∀ {m : List (Int × SgtV)}, RiseG m → sgAt m x = some n → sgIns x n (sgDel m x) = m
  | [], _, h => by simp [sgAt] at h
  | q :: r, hr, h => by
    have hr' := List.pairwise_cons.1 hr
    by_cases hq : q.1 = x
    · have hn : q.2 = n := by simpa [sgAt, hq] using h
      have hd : sgDel (q :: r) x = r := by
        have : sgDel (q :: r) x = sgDel r x := by simp [sgDel, hq]
        rw [this, sgDel_self fun p hp => by have := hr'.1 p hp; omega]
      rw [hd]
      have hqe : q = (x, n) := Prod.ext hq hn
      cases r with
      | nil => rw [hqe]; rfl
      | cons y s =>
        have := hr'.1 y (by simp)
        rw [sgIns, if_pos (by omega), hqe]
    · have h' : sgAt r x = some n := by simpa [sgAt, hq] using h
      have hd : sgDel (q :: r) x = q :: sgDel r x := by simp [sgDel, hq]
      have hlt : q.1 < x := by
        unfold sgAt at h'
        obtain ⟨p, hp, _⟩ := Option.map_eq_some_iff.1 h'
        have h1 := hr'.1 p (List.mem_of_find?_eq_some hp)
        have h2 : p.1 = x := by simpa using List.find?_some hp
        omega
      rw [hd, sgIns, if_neg (by omega), sgIns_back hr'.2 h']
theorem sg_back_some {m : List (Int × SgtV)} {x : Int} {n n' : SgtV} (hr : RiseG m) (h : sgAt m x = some n) : sgPut (sgPut m x n') x n = m := by
  rw [sgPut, sgDel_put, sgIns_back hr h]
theorem sgAt_ins_other {x y : Int} {n : SgtV} (hne : y ≠ x) : ∀ (m : List (Int × SgtV)), sgAt (sgIns x n m) y = sgAt m y
  | [] => by simp [sgIns, sgAt, Ne.symm hne]
  | q :: r => by
    unfold sgIns
    split
    · simp [sgAt, Ne.symm hne]
    · have ih := sgAt_ins_other (n := n) hne r
      unfold sgAt at *
      rw [List.find?_cons, List.find?_cons]
      cases decide (q.1 = y)
      · exact ih
      · rfl
theorem sgAt_ins_same {x : Int} {n : SgtV} : ∀ {m : List (Int × SgtV)}, (∀ p ∈ m, p.1 ≠ x) → sgAt (sgIns x n m) x = some n
  | [], _ => by simp [sgIns, sgAt]
  | q :: r, h => by
    unfold sgIns
    split
    · simp [sgAt]
    · have ih := sgAt_ins_same (n := n) (m := r) (fun p hp => h p (by simp [hp]))
      have hq := h q (by simp)
      unfold sgAt at *
      rw [List.find?_cons]
      simp only [hq, decide_false]
      exact ih
theorem sgAt_del {m : List (Int × SgtV)} {x y : Int} (hne : y ≠ x) : sgAt (sgDel m x) y = sgAt m y := by
  unfold sgAt sgDel
  rw [List.find?_filter]
  congr 1
  congr 1
  funext p
  by_cases h : p.1 = y
  · simp [h, hne]
  · simp [h]
theorem sgAt_put_same (m : List (Int × SgtV)) (x : Int) (n : SgtV) : sgAt (sgPut m x n) x = some n := sgAt_ins_same (sgDel_no m x)
theorem sgAt_put_other (m : List (Int × SgtV)) {x y : Int} (n : SgtV) (hne : y ≠ x) : sgAt (sgPut m x n) y = sgAt m y := by
  unfold sgPut
  rw [sgAt_ins_other hne, sgAt_del hne]
theorem sgIns_len (x : Int) (n : SgtV) : ∀ (m : List (Int × SgtV)), (sgIns x n m).length = m.length + 1
  | [] => rfl
  | q :: r => by
    unfold sgIns
    split
    · rfl
    · rw [List.length_cons, sgIns_len x n r, List.length_cons]
theorem sgPut_len_none {m : List (Int × SgtV)} {x : Int} {n : SgtV} (h : sgAt m x = none) : (sgPut m x n).length = m.length + 1 := by
  unfold sgPut
  rw [sgIns_len, sgDel_self (sgAt_none h)]
theorem sgPut_len_some {m : List (Int × SgtV)} {x : Int} {n n' : SgtV} (hr : RiseG m) (h : sgAt m x = some n) : (sgPut m x n').length = m.length := by
  have := congrArg List.length (sgIns_back hr h)
  rw [sgIns_len] at this
  unfold sgPut
  rw [sgIns_len]
  exact this
theorem sgIns_mem {x : Int} {n : SgtV} {p : Int × SgtV} : ∀ {m : List (Int × SgtV)}, p ∈ sgIns x n m → p = (x, n) ∨ p ∈ m
  | [], h => by simp [sgIns] at h; exact .inl h
  | q :: r, h => by
    unfold sgIns at h
    split at h
    · rcases List.mem_cons.1 h with h | h
      · exact .inl h
      · exact .inr h
    · rcases List.mem_cons.1 h with h | h
      · exact .inr (by simp [h])
      · exact (sgIns_mem h).imp id (fun h => by simp [h])
theorem sgPut_mem {m : List (Int × SgtV)} {x : Int} {n : SgtV} {p : Int × SgtV} (h : p ∈ sgPut m x n) : p = (x, n) ∨ p ∈ m :=
  (sgIns_mem h).imp id (fun h => (List.mem_filter.1 h).1)
theorem sgIns_rise {x : Int} {n : SgtV} : ∀ {m : List (Int × SgtV)}, RiseG m → (∀ p ∈ m, p.1 ≠ x) → RiseG (sgIns x n m)
  | [], _, _ => by simp [sgIns, RiseG]
  | q :: r, hr, h => by
    have hr' := List.pairwise_cons.1 hr
    have hq := h q (by simp)
    unfold sgIns
    split
    · rename_i hx
      exact List.pairwise_cons.2 ⟨fun p hp => by
        rcases List.mem_cons.1 hp with rfl | hp
        · exact hx
        · have := hr'.1 p hp; omega, hr⟩
    · refine List.pairwise_cons.2 ⟨fun p hp => ?_, sgIns_rise hr'.2 (fun p hp => h p (by simp [hp]))⟩
      rcases sgIns_mem hp with rfl | hp
      · show q.1 < x; omega
      · exact hr'.1 p hp
theorem sgPut_rise {m : List (Int × SgtV)} (hr : RiseG m) (x : Int) (n : SgtV) : RiseG (sgPut m x n) :=
  sgIns_rise (List.Pairwise.sublist (List.filter_sublist) hr) (sgDel_no m x)
/-- What was seen of a replica; of none that is the zero one. -/
def sgOf (m : List (Int × SgtV)) (x : Int) : SgtV := (sgAt m x).getD SgtV.zero
section
variable (w : World) {ops : Array Oper} {rest : List Oper} {o : Oper} {a : Act} {Q : Exit → Act → World → Prop}
theorem sg_look (B : Nat) (l : List (Int × SgtV)) (hM : SgAt w B l) (key : Int) (hk : -9223372036854775808 ≤ key ∧ key ≤ 9223372036854775807) :
    (Instr.lookup 73 (.map (some B)) (.int .i64 key) false).run Try.prog w = .ok (sgOf l key).agg w := by
  obtain ⟨es, clock, hb, F, _, hD⟩ := hM
  have hfit := Maps.fit_look false sgLaw Try.underlying73 (zeroG w) hb F (sg_key hk)
  rcases hfit with ⟨hrun, _, hat⟩ | ⟨e0, y, _, _, hrun, hRv, hat, _⟩
  · have h1 := hat .nil
    rw [← hD] at h1
    have h2 : sgAt l key = none := by
      cases hn : sgAt l key with
      | none => rfl
      | some n => rw [sgD_some hn] at h1; cases h1
    rw [hrun]
    simp [sgOf, h2]
  · have h1 := hat .nil
    rw [← hD] at h1
    simp only [rdG, Option.some.injEq] at hRv
    subst hRv
    cases hn : sgAt l key with
    | none => rw [sgD_none hn] at h1; cases h1
    | some n =>
      rw [sgD_some hn] at h1
      simp only [DataW.held.injEq] at h1
      rw [hrun]
      simp [sgOf, hn, h1]
/-- 'seen[x]'. -/
theorem wpList_sg_look (hg : o.guard = none) (m x : Operand) (hop : o.op = Op.lookup 73 m x false) (B : Nat) (l : List (Int × SgtV)) (hm : a.eval m = .map (some B)) (hM : SgAt w B l)
    (key : Int) (hk : -9223372036854775808 ≤ key ∧ key ≤ 9223372036854775807) (hx : a.eval x = .int .i64 key)
    (hK : wpList Try.prog ops Q rest (a.put o.dst (.agg #[.int .i64 (sgOf l key).many, .int .i64 (sgOf l key).last.time, .int .i64 (sgOf l key).last.repl, .int .i64 (sgOf l key).last.kind, .int .i64 (sgOf l key).last.node, .int .i64 (sgOf l key).last.parent, .string (sgOf l key).last.name, .string (sgOf l key).last.value])) w) :
    wpList Try.prog ops Q (o :: rest) a w := by
  refine wpList_plain hg fun K' hK' => ?_
  have hrun := sg_look w B l hM key hk
  unfold Oper.wp
  simp [execOp, hop, hm, hx, hrun, Result.andThen]
  exact hK' _ _ hK
/-- 'seen[x] = s'. -/
theorem wpList_sg_put (hg : o.guard = none) (m x v : Operand) (hop : o.op = Op.mapUpdate 73 m x v) (B : Nat) (l : List (Int × SgtV)) (hm : a.eval m = .map (some B)) (hM : SgAt w B l) (hl : l.length < maxLen)
    (key : Int) (hk : -9223372036854775808 ≤ key ∧ key ≤ 9223372036854775807) (hx : a.eval x = .int .i64 key) (n : SgtV) (hv : a.eval v = n.agg)
    (hK : ∀ w', SgAt w' B (sgPut l key n) → w.mapTurned w' B → wpList Try.prog ops Q rest (a.put o.dst undef) w') :
    wpList Try.prog ops Q (o :: rest) a w :=
  wpList_mapUpdate_in w hg m x v 73 hop 2 81 sgLaw Try.underlying73 rdG B l.length (sgD l) hm hM hl _ _ _ hx hv (sg_key hk) (.held n.agg) [] rfl (fun w' h1 h2 => by
    rw [sgD_put] at h1
    exact hK w' (SgAt.of h1) h2)
end
end Go.Proofs.Ytdjjpaleemnikaa.OpR
