/- Ways up, parent by parent: how long they are, and what becomes of them when one node is put elsewhere. Plain mathematics. A map of nodes by their numbers: what it holds is a list of pairs, and what is read of it and put to it. Proves what the harness does with trees: how much is in them, copies of them, comparisons. Rows of structs of whatever number of cells: what lies in them, and what stores make of them. Proves what the harness does with trees: copies of them, comparisons. -/
import Derived.Test.YtcpgkalafkhlgaeDoa
import Derived.Maps.OwnSet
import Derived.Maps.RangeWalk
namespace Go.Proofs.Ytcpgkalafkhlgae.OpR

set_option linter.unusedVariables false

theorem ends_step {f : Int → Option Int} {k : Nat} {x y : Int} (h0 : x ≠ 0) (h1 : x ≠ 1) (h : f x = some y) : endsF f (k + 1) x = endsF f k y := by
  simp [endsF, h0, h1, h]
theorem ends_stop {f : Int → Option Int} {k : Nat} {x : Int} (h0 : x ≠ 0) (h1 : x ≠ 1) (h : f x = none) : endsF f k x = false := by
  cases k <;> simp [endsF, h0, h1, h]
theorem ends_low {f : Int → Option Int} {k : Nat} {x : Int} (h : x = 0 ∨ x = 1) : endsF f (k + 1) x = true := by
  simp [endsF, h]
theorem ends_cases {f : Int → Option Int} {k : Nat} {x : Int} (h : endsF f k x = true) : ∃ j, k = j + 1 ∧ ((x = 0 ∨ x = 1) ∨ (x ≠ 0 ∧ x ≠ 1 ∧ ∃ y, f x = some y ∧ endsF f j y = true)) := by
  cases k with
  | zero => simp [endsF] at h
  | succ j =>
    refine ⟨j, rfl, ?_⟩
    by_cases hx : x = 0 ∨ x = 1
    · exact .inl hx
    · refine .inr ⟨fun e => hx (.inl e), fun e => hx (.inr e), ?_⟩
      cases hf : f x with
      | none => rw [ends_stop (fun e => hx (.inl e)) (fun e => hx (.inr e)) hf] at h; cases h
      | some y => exact ⟨y, rfl, by rwa [ends_step (fun e => hx (.inl e)) (fun e => hx (.inr e)) hf] at h⟩
theorem ends_mono {f : Int → Option Int} : ∀ {k j : Nat} {x : Int}, k ≤ j → endsF f k x = true → endsF f j x = true := by
  intro k
  induction k with
  | zero => intro j x _ h; simp [endsF] at h
  | succ k ih =>
    intro j x hj h
    obtain ⟨j, rfl⟩ : ∃ i, j = i + 1 := ⟨j - 1, by omega⟩
    obtain ⟨_, e, hc⟩ := ends_cases h
    rcases hc with hx | ⟨h0, h1, y, hy, hk⟩
    · exact ends_low hx
    · rw [ends_step h0 h1 hy]
      obtain rfl := Nat.succ.inj e
      exact ih (by omega) hk
/-- Another way up that parts from this one at most where this one doesn't come. -/
theorem ends_away {f g : Int → Option Int} {x : Int} (hfg : ∀ z, z ≠ x → f z = g z) : ∀ {k : Nat} {p : Int}, abF f x k p = false → endsF f k p = true → endsF g k p = true := by
  intro k
  induction k with
  | zero => intro p _ h; simp [endsF] at h
  | succ k ih =>
    intro p ha h
    have hpx : p ≠ x := fun e => by simp [abF, e] at ha
    obtain ⟨_, e, hc⟩ := ends_cases h
    obtain rfl := Nat.succ.inj e
    rcases hc with hx | ⟨h0, h1, y, hy, hk⟩
    · exact ends_low hx
    · rw [ends_step h0 h1 (show g p = some y by rw [← hfg p hpx]; exact hy)]
      refine ih ?_ hk
      simpa [abF, hpx, hy] using ha
/-- A way that meets x goes on from x. -/
theorem ends_meets {f : Int → Option Int} (h0 : f 0 = none) (h1 : f 1 = none) {x : Int} : ∀ {k : Nat} {p : Int}, abF f x k p = true → ∀ j, endsF f j p = true → ∃ i, i ≤ j ∧ endsF f i x = true := by
  intro k
  induction k with
  | zero => intro p ha; simp [abF] at ha
  | succ k ih =>
    intro p ha j h
    by_cases hpx : p = x
    · subst hpx; exact ⟨j, Nat.le_refl _, h⟩
    · obtain ⟨i, rfl, hc⟩ := ends_cases h
      rcases hc with hx | ⟨hp0, hp1, y, hy, hk⟩
      · have hn : f p = none := by rcases hx with rfl | rfl <;> assumption
        simp [abF, hpx, hn] at ha
      · have ha' : abF f x k y = true := by simpa [abF, hpx, hy] using ha
        obtain ⟨i', hi, he⟩ := ih ha' i hk
        exact ⟨i', by omega, he⟩
theorem ab_same {f g : Int → Option Int} {x : Int} (hfg : ∀ z, z ≠ x → f z = g z) : ∀ (k : Nat) (p : Int), abF f x k p = abF g x k p
  | 0, _ => rfl
  | k + 1, p => by
    unfold abF
    by_cases hpx : p = x
    · simp [hpx]
    · rw [if_neg hpx, if_neg hpx, hfg p hpx]
      cases g p with
      | none => rfl
      | some y => exact ab_same hfg k y
/-- A way that ends has an end as near as may be. -/
theorem ends_least {f : Int → Option Int} {x : Int} : ∀ {k : Nat}, endsF f k x = true → ∃ j, j ≤ k ∧ endsF f j x = true ∧ ∀ i, i < j → endsF f i x = false := by
  intro k
  induction k with
  | zero => intro h; simp [endsF] at h
  | succ k ih =>
    intro h
    cases e : endsF f k x with
    | true => obtain ⟨j, hj, h1, h2⟩ := ih e; exact ⟨j, by omega, h1, h2⟩
    | false =>
      refine ⟨k + 1, Nat.le_refl _, h, fun i hi => ?_⟩
      cases e' : endsF f i x with
      | false => rfl
      | true => rw [ends_mono (by omega) e'] at e; cases e
theorem filter_less (x : Int) : ∀ (l : List Int), x ∈ l → (l.filter fun z => decide (z ≠ x)).length < l.length := by
  intro l hx
  have := List.length_filter_lt_length_iff_exists (p := fun z => decide (z ≠ x)) (l := l)
  exact this.2 ⟨x, hx, by simp⟩
/-- A way up that ends has no more steps than there are numbers with a parent, and one. -/
theorem ends_short : ∀ (n : Nat) (f : Int → Option Int) (dom : List Int), dom.length ≤ n → (∀ z y, f z = some y → z ∈ dom) → f 0 = none → f 1 = none → ∀ {k : Nat} {x : Int}, endsF f k x = true → endsF f (n + 1) x = true := by
  intro n
  induction n with
  | zero =>
    intro f dom hl hd h0 h1 k x h
    obtain ⟨_, _, hx | ⟨_, _, y, hy, _⟩⟩ := ends_cases h
    · exact ends_low hx
    · have := hd _ _ hy
      rw [List.eq_nil_of_length_eq_zero (Nat.le_zero.1 hl)] at this
      cases this
  | succ n ih =>
    intro f dom hl hd h0 h1 k x h
    obtain ⟨j, _, hj, hleast⟩ := ends_least h
    obtain ⟨i, rfl, hx | ⟨hx0, hx1, y, hy, hk⟩⟩ := ends_cases hj
    · exact ends_low hx
    · rw [ends_step hx0 hx1 hy]
      have hav : abF f x i y = false := by
        cases e : abF f x i y with
        | false => rfl
        | true =>
          obtain ⟨i', hi', he⟩ := ends_meets h0 h1 e i hk
          rw [hleast i' (by omega)] at he
          cases he
      have hfg : ∀ z, z ≠ x → f z = (fun z => if z = x then none else f z) z := fun z hz => by simp [hz]
      have hg := ih (fun z => if z = x then none else f z) (dom.filter fun z => decide (z ≠ x)) (by have := filter_less x dom (hd _ _ hy); omega)
        (fun z y' hz => by
          by_cases e : z = x
          · simp [e] at hz
          · simp only [e, if_false] at hz
            exact List.mem_filter.2 ⟨hd _ _ hz, by simpa using e⟩) (by simp only [h0]; split <;> rfl) (by simp only [h1]; split <;> rfl) (ends_away hfg hav hk)
      have hback : abF (fun z => if z = x then none else f z) x (n + 1) y = false := by
        rw [← ab_same hfg]
        cases e : abF f x (n + 1) y with
        | false => rfl
        | true =>
          obtain ⟨i', hi', he⟩ := ends_meets h0 h1 e i hk
          rw [hleast i' (by omega)] at he
          cases he
      exact ends_away (fun z hz => (hfg z hz).symm) hback hg
/-- A node put below p: from it on the way ends just if p is a place, and p doesn't lie below it. -/
theorem moved_ends {f g : Int → Option Int} {x p : Int} (hx0 : x ≠ 0) (hx1 : x ≠ 1) (h0 : f 0 = none) (h1 : f 1 = none) (hfg : ∀ z, z ≠ x → f z = g z) (hgx : g x = some p) {k : Nat} (hp : endsF f k p = true) (hav : abF f x k p = false) : endsF g (k + 1) x = true := by
  rw [ends_step hx0 hx1 hgx]
  exact ends_away hfg hav hp
theorem moved_loop {f g : Int → Option Int} {x p : Int} (hx0 : x ≠ 0) (hx1 : x ≠ 1) (h0 : f 0 = none) (h1 : f 1 = none) (hfg : ∀ z, z ≠ x → f z = g z) (hgx : g x = some p) {k : Nat} (hav : abF f x k p = true) : ∀ j, endsF g j x = false := by
  intro j
  induction j using Nat.strongRecOn with
  | _ j ih =>
    cases e : endsF g j x with
    | false => rfl
    | true =>
      obtain ⟨i, rfl, hx | ⟨_, _, y, hy, hk⟩⟩ := ends_cases e
      · rcases hx with h | h
        · exact absurd h hx0
        · exact absurd h hx1
      · rw [hgx] at hy
        cases hy
        have hg0 : g 0 = none := by rw [← hfg 0 (fun e => hx0 e.symm)]; exact h0
        have hg1 : g 1 = none := by rw [← hfg 1 (fun e => hx1 e.symm)]; exact h1
        obtain ⟨i', hi', he⟩ := ends_meets hg0 hg1 (by rw [← ab_same hfg]; exact hav) i hk
        rw [ih i' (by omega)] at he
        cases he
theorem moved_none {g : Int → Option Int} {x p : Int} (hx0 : x ≠ 0) (hx1 : x ≠ 1) (hgx : g x = some p) (hp0 : p ≠ 0) (hp1 : p ≠ 1) (hgp : g p = none) (j : Nat) : endsF g j x = false := by
  cases j with
  | zero => rfl
  | succ j => rw [ends_step hx0 hx1 hgx, ends_stop hp0 hp1 hgp]
end Go.Proofs.Ytcpgkalafkhlgae.OpR
namespace Go.Proofs.Ytcpgkalafkhlgae.OpR
open Go.ChangeShapes Go.WideShapes Go.ChangeAt Go.RowKit
set_option linter.unusedVariables false

def NodG.zero : NodG := ⟨0, 0, ⟨#[]⟩, [], none, 0⟩
/-- An element of the map is held as it is. -/
def rdN (v : Value) : Option (DataW Value × List MemPlace) := some (.held v, [])
def kvD (m : List (Int × NodG)) : DataW Value := .map (m.map fun p => (Lit.int .i64 p.1, DataW.held p.2.agg))
def kvAt (m : List (Int × NodG)) (x : Int) : Option NodG := (m.find? fun p => decide (p.1 = x)).map Prod.snd
def kvIns (x : Int) (n : NodG) : List (Int × NodG) → List (Int × NodG)
  | [] => [(x, n)]
  | q :: r => if x < q.1 then (x, n) :: q :: r else q :: kvIns x n r
def kvDel (m : List (Int × NodG)) (x : Int) : List (Int × NodG) := m.filter fun p => !decide (p.1 = x)
def kvPut (m : List (Int × NodG)) (x : Int) (n : NodG) : List (Int × NodG) := kvIns x n (kvDel m x)
theorem same_int (a b : Int) : (Lit.int .i64 a).sameKey (Lit.int .i64 b) = decide (a = b) := by simp [Lit.sameKey]
theorem kvD_del (m : List (Int × NodG)) (x : Int) : (kvD m).del (.int .i64 x) = kvD (kvDel m x) := by
  unfold kvD kvDel DataW.del
  simp only [List.filter_map, DataW.map.injEq]
  congr 1
  refine List.filter_congr fun p _ => ?_
  simp [same_int]
theorem kvD_ins (x : Int) (n : NodG) : ∀ (m : List (Int × NodG)), DataW.insert (Lit.int .i64 x, DataW.held n.agg) (m.map fun p => (Lit.int .i64 p.1, DataW.held p.2.agg)) = (kvIns x n m).map fun p => (Lit.int .i64 p.1, DataW.held p.2.agg)
  | [] => rfl
  | q :: r => by
    simp only [List.map_cons, DataW.insert, kvIns, Lit.before, decide_eq_true_eq]
    by_cases h : x < q.1
    · rw [if_pos h, if_pos h]; rfl
    · rw [if_neg h, if_neg h, List.map_cons, kvD_ins x n r]
theorem kvD_put (m : List (Int × NodG)) (x : Int) (n : NodG) : (kvD m).put (.int .i64 x) (.held n.agg) = kvD (kvPut m x n) := by
  have h := kvD_del m x
  unfold kvD DataW.del at h
  unfold kvD kvPut DataW.put
  simp only [DataW.map.injEq] at h ⊢
  rw [h, kvD_ins]
theorem kvD_find (m : List (Int × NodG)) (x : Int) : (m.map fun p => (Lit.int .i64 p.1, DataW.held p.2.agg)).find? (fun p => p.1.sameKey (.int .i64 x)) = (m.find? fun p => decide (p.1 = x)).map fun p => (Lit.int .i64 p.1, DataW.held p.2.agg) := by
  induction m with
  | nil => rfl
  | cons q r ih =>
    rw [List.map_cons, List.find?_cons, List.find?_cons, same_int, ih]
    cases decide (q.1 = x) <;> rfl
theorem kvD_some {m : List (Int × NodG)} {x : Int} {n : NodG} (h : kvAt m x = some n) (z : DataW Value) : (kvD m).atKey (.int .i64 x) z = .held n.agg := by
  unfold kvAt at h
  unfold kvD DataW.atKey
  simp only [kvD_find]
  cases e : m.find? (fun p => decide (p.1 = x)) with
  | none => rw [e] at h; cases h
  | some p => rw [e] at h; cases h; rfl
theorem kvD_none {m : List (Int × NodG)} {x : Int} (h : kvAt m x = none) (z : DataW Value) : (kvD m).atKey (.int .i64 x) z = z := by
  unfold kvAt at h
  unfold kvD DataW.atKey
  simp only [kvD_find]
  cases e : m.find? (fun p => decide (p.1 = x)) with
  | none => rfl
  | some p => rw [e] at h; cases h
theorem kvD_has (m : List (Int × NodG)) (x : Int) : Maps.has (kvD m) (.int .i64 x) = (kvAt m x).isSome := by
  cases h : kvAt m x with
  | none => exact Maps.has_false_of_atKey (kvD_none h)
  | some n => exact Maps.has_true_of_atKey (kvD_some h)
theorem kvD_size (m : List (Int × NodG)) : Maps.size (kvD m) = m.length := by simp [Maps.size, kvD]

theorem lawK : Maps.Keyed Try.prog 2 := Maps.int_keyed Try.underlying2
theorem zeroN (w : World) : (zeroValue 79).run Try.prog w = .ok (.agg #[.int .i64 0, .int .i64 0, .string ⟨#[]⟩, .slice none 0 0]) w := by kernel_rfl
/-- The map in block B holds just these. -/
def MapAt (w : World) (B : Nat) (m : List (Int × NodG)) : Prop := w.ownsMap Try.prog 2 rdN B m.length (kvD m)
theorem MapAt.of {w : World} {B n : Nat} {m : List (Int × NodG)} (h : w.ownsMap Try.prog 2 rdN B n (kvD m)) : MapAt w B m := by
  obtain ⟨es, clock, hb, F, hs, hD⟩ := h
  refine ⟨es, clock, hb, F, ?_, hD⟩
  have := congrArg Maps.size hD
  rw [kvD_size] at this
  simp only [Maps.size, length_sorted, List.length_map, Array.length_toList] at this
  omega
theorem MapAt.lt {w : World} {B : Nat} {m : List (Int × NodG)} (h : MapAt w B m) : B < w.heap.size := World.ownsMap.lt h
theorem MapAt.block {w w' : World} {B : Nat} {m : List (Int × NodG)} (h : MapAt w B m) (e : w'.heap[B]? = w.heap[B]?) : MapAt w' B m := by
  obtain ⟨es, clock, hb, r⟩ := h
  exact ⟨es, clock, e.trans hb, r⟩
theorem MapAt.stays {w w' : World} {B : Nat} {m : List (Int × NodG)} (h : MapAt w B m) (hb : Below w.heap.size w w') : MapAt w' B m := h.block (hb.block B h.lt)
theorem MapAt.below {w w' : World} {B C : Nat} {m : List (Int × NodG)} (h : MapAt w B m) (hb : Below C w w') (hB : B < C) : MapAt w' B m := h.block (hb.block B hB)
theorem MapAt.made (w : World) : MapAt (w.alloc (.map #[] 0)) w.heap.size [] := World.ownsMap_made w _ _ _
theorem key_i64 {x : Int} (h : -9223372036854775808 ≤ x ∧ x ≤ 9223372036854775807) : keyOf Try.prog 2 (.int .i64 x) = some (.int .i64 x) :=
  Maps.keyOf_int_mk Try.underlying2 (by simp [Lit.wf, IntKind.min, IntKind.max, IntKind.signed, IntKind.bits]; omega)

section
variable (w : World) {ops : Array Oper} {rest : List Oper} {o : Oper} {a : Act} {Q : Exit → Act → World → Prop}
/-- 'n, there := nodes[x]', where there is one. -/
theorem wpList_look_some (hg : o.guard = none) (m x : Operand) (hop : o.op = Op.lookup 87 m x true) (B : Nat) (l : List (Int × NodG)) (hm : a.eval m = .map (some B)) (hM : MapAt w B l)
    (key : Int) (hk : -9223372036854775808 ≤ key ∧ key ≤ 9223372036854775807) (hx : a.eval x = .int .i64 key) (n : NodG) (hn : kvAt l key = some n)
    (hK : wpList Try.prog ops Q rest (a.put o.dst (.tuple #[.agg #[.int .i64 n.id, .int .i64 n.parent, .string n.name, .slice n.pao n.props.length n.pcap], .bool true])) w) :
    wpList Try.prog ops Q (o :: rest) a w :=
  wpList_lookup_own_ok w hg m x 87 hop 2 79 lawK Try.underlying87 rdN (zeroN w) _ [] rfl B l.length (kvD l) hm hM _ _ hx (key_i64 hk) (fun v ps hv => by
    rw [kvD_some hn] at hv
    simp only [rdN, Option.some.injEq, Prod.mk.injEq, DataW.held.injEq] at hv
    obtain ⟨rfl, _⟩ := hv
    rw [kvD_has, hn]
    exact hK)
/-- .. and where there is none. -/
theorem wpList_look_none (hg : o.guard = none) (m x : Operand) (hop : o.op = Op.lookup 87 m x true) (B : Nat) (l : List (Int × NodG)) (hm : a.eval m = .map (some B)) (hM : MapAt w B l)
    (key : Int) (hk : -9223372036854775808 ≤ key ∧ key ≤ 9223372036854775807) (hx : a.eval x = .int .i64 key) (hn : kvAt l key = none)
    (hK : wpList Try.prog ops Q rest (a.put o.dst (.tuple #[.agg #[.int .i64 0, .int .i64 0, .string ⟨#[]⟩, .slice none 0 0], .bool false])) w) :
    wpList Try.prog ops Q (o :: rest) a w :=
  wpList_lookup_own_ok w hg m x 87 hop 2 79 lawK Try.underlying87 rdN (zeroN w) _ [] rfl B l.length (kvD l) hm hM _ _ hx (key_i64 hk) (fun v ps hv => by
    rw [kvD_none hn] at hv
    simp only [rdN, Option.some.injEq, Prod.mk.injEq, DataW.held.injEq] at hv
    obtain ⟨rfl, _⟩ := hv
    rw [kvD_has, hn]
    exact hK)
/-- 'nodes[x] = n'. -/
theorem wpList_put_node (hg : o.guard = none) (m x v : Operand) (hop : o.op = Op.mapUpdate 87 m x v) (B : Nat) (l : List (Int × NodG)) (hm : a.eval m = .map (some B)) (hM : MapAt w B l) (hl : l.length < maxLen)
    (key : Int) (hk : -9223372036854775808 ≤ key ∧ key ≤ 9223372036854775807) (hx : a.eval x = .int .i64 key) (n : NodG) (hv : a.eval v = .agg #[.int .i64 n.id, .int .i64 n.parent, .string n.name, .slice n.pao n.props.length n.pcap])
    (hK : ∀ w', MapAt w' B (kvPut l key n) → w.mapTurned w' B → wpList Try.prog ops Q rest (a.put o.dst undef) w') :
    wpList Try.prog ops Q (o :: rest) a w :=
  wpList_mapUpdate_in w hg m x v 87 hop 2 79 lawK Try.underlying87 rdN B l.length (kvD l) hm hM hl _ _ _ hx hv (key_i64 hk) (.held n.agg) [] rfl (fun w' h1 h2 => by
    rw [kvD_put] at h1
    exact hK w' (MapAt.of h1) h2)
/-- 'delete(nodes, x)'. -/
theorem wpList_del_node (hg : o.guard = none) (m x : Operand) (hop : o.op = Op.call { callee := Callee.builtin Builtin.delete, args := #[m, x], argTypes := #[87, 2] }) (B : Nat) (l : List (Int × NodG)) (hm : a.eval m = .map (some B)) (hM : MapAt w B l)
    (key : Int) (hk : -9223372036854775808 ≤ key ∧ key ≤ 9223372036854775807) (hx : a.eval x = .int .i64 key)
    (hK : ∀ w', MapAt w' B (kvDel l key) → w.mapTurned w' B → wpList Try.prog ops Q rest (a.put o.dst (.tuple #[])) w') :
    wpList Try.prog ops Q (o :: rest) a w :=
  wpList_delete_own w hg m x 87 2 hop 79 lawK Try.underlying87 rdN B l.length (kvD l) hm hM _ _ hx (key_i64 hk) (fun w' h1 h2 => by
    rw [kvD_del] at h1
    exact hK w' (MapAt.of h1) h2)
/-- 'len(nodes)'. -/
theorem wpList_len_nodes (hg : o.guard = none) (m : Operand) (hop : o.op = Op.call { callee := Callee.builtin Builtin.len, args := #[m], argTypes := #[87] }) (B : Nat) (l : List (Int × NodG)) (hm : a.eval m = .map (some B)) (hM : MapAt w B l)
    (hK : wpList Try.prog ops Q rest (a.put o.dst (.int .i64 (l.length : Int))) w) :
    wpList Try.prog ops Q (o :: rest) a w :=
  wpList_len_own w hg m 87 hop 2 79 Try.underlying87 rdN B l.length (kvD l) hm hM (by rw [kvD_size]; exact hK)
end
end Go.Proofs.Ytcpgkalafkhlgae.OpR
namespace Go.Proofs.Ytcpgkalafkhlgae.OpR
open Go.ChangeShapes Go.WideShapes Go.ChangeAt Go.RowKit
set_option linter.unusedVariables false

set_option maxRecDepth 100000 in
set_option maxHeartbeats 400000 in
theorem szProp_any (p : PropV) (left : Int) (w : World) (h0 : 0 ≤ left) (h1 : left ≤ 1048576) (hn : p.key.size ≤ maxLen) (hv : p.value.size ≤ maxLen) :
    Calls Try.prog 127 #[p.agg, .int .i64 left] w fun e w' => ∃ m : Int, e = .returned (.int .i64 m) ∧ m ≤ left ∧ -1 ≤ m ∧ (0 ≤ m → p.key.size ≤ 1048576 ∧ p.value.size ≤ 1048576) ∧ Below w.heap.size w w' := by
  unfold maxLen at hn hv
  unfold PropV.agg
  go_enter Try.func127, Try.ntmps127
  go_wp2
  · go_ret; exact ⟨-1, rfl, by omega, by omega, fun h => by omega, (Below.refl _ _).alloc (Nat.le_refl _) _⟩
  · go_ret; exact ⟨-1, rfl, by omega, by omega, fun h => by omega, (Below.refl _ _).alloc (Nat.le_refl _) _⟩
  · go_ret; exact ⟨_, rfl, by omega, by omega, fun h => by omega, (Below.refl _ _).alloc (Nat.le_refl _) _⟩

def SizedP (m : Nat) (l : List PropV) : Prop := ∀ p ∈ l, p.key.size ≤ m ∧ p.value.size ≤ m
set_option maxRecDepth 100000 in
set_option maxHeartbeats 400000 in
theorem szPropS_any (l : List PropV) (ao : Option Addr) (cap : Nat) (left : Int) (w : World) (h0 : 0 ≤ left) (h1 : left ≤ 1048576) (hl : l.length ≤ maxLen) (hA : PropsAt w ao l) (hS : SizedP maxLen l) :
    Calls Try.prog 113 #[.slice ao l.length cap, .int .i64 left] w fun e w' => ∃ m : Int, e = .returned (.int .i64 m) ∧ m ≤ left ∧ -1 ≤ m ∧ (0 ≤ m → l.length ≤ 1048576 ∧ SizedP 1048576 l) ∧ Below w.heap.size w w' := by
  have hl' := hl
  unfold maxLen at hl
  have HA : Hid (PropsAt w ao l) := ⟨hA⟩
  have HS : Hid (SizedP maxLen l) := ⟨hS⟩
  clear hA hS
  go_enter Try.func113, Try.ntmps113
  go_wp2
  · go_ret; exact ⟨-1, rfl, by omega, by omega, fun h => by omega, Below.refl _ _⟩
  go_loopw [1, 5] (fun m i wr => ∃ (k : Nat) (z : Int), k ≤ l.length ∧ i = .int .i64 k ∧ m = .int .i64 z ∧ 0 ≤ z ∧ z ≤ left ∧ (∀ j (hj : j < l.length), j < k → l[j].key.size ≤ 1048576 ∧ l[j].value.size ≤ 1048576) ∧ Below w.heap.size w wr) (fun _ i _ => l.length - (intOf i).toNat)
  case atStart => exact ⟨0, _, by omega, rfl, rfl, by omega, by omega, fun j hj h => by omega, Below.refl _ _⟩
  case round =>
    obtain ⟨k, z, hk, rfl, rfl, hz0, hz1, hall, hb⟩ := hrel
    have HL : Hid (∀ j (hj : j < l.length), j < k → l[j].key.size ≤ 1048576 ∧ l[j].value.size ≤ 1048576) := ⟨hall⟩
    clear hall
    by_cases h : k < l.length
    · obtain ⟨b, off, rfl, hlt, ho⟩ := HA.out k h
      obtain ⟨c0, c1⟩ := ho.block (w' := wr) (hb.block b hlt)
      have hsz := HS.out _ (List.getElem_mem h)
      have hcall := szProp_any l[k] z wr hz0 (by omega) hsz.1 hsz.2
      unfold PropV.agg at hcall
      have hi0 : (0 : Int) ≤ (k : Int) := by omega
      have hi1 : (k : Int) < (l.length : Int) := by omega
      clear ho hsz
      go_wp2_with (first | (go_at_call 127; refine hcall.mono ?_; rintro e w1 ⟨m, rfl, hm0, hm1, hm2, hb1⟩))
      · go_ret; exact ⟨-1, rfl, by omega, by omega, fun h => by omega, hb.trans (hb1.mono hb.size)⟩
      · go_roundw
        case rel =>
          refine ⟨k + 1, m, by omega, by go_num, rfl, by omega, by omega, fun j hj hjk => ?_, hb.trans (hb1.mono hb.size)⟩
          rcases Nat.lt_or_ge j k with h' | h'
          · exact HL.out j hj h'
          · obtain rfl : j = k := by omega
            exact hm2 (by omega)
        case measure => simp [intOf]; omega
    · go_wp2
      go_ret
      refine ⟨_, rfl, by omega, by omega, fun _ => ⟨by omega, fun o ho => ?_⟩, hb⟩
      obtain ⟨j, hj, rfl⟩ := List.getElem_of_mem ho
      exact HL.out j hj (by omega)

/-- How long the texts of one node are. -/
def Sized1 (m : Nat) (n : NodG) : Prop := n.name.size ≤ m ∧ n.props.length ≤ m ∧ SizedP m n.props
set_option maxRecDepth 100000 in
set_option maxHeartbeats 400000 in
theorem szNode_any (n : NodG) (left : Int) (w : World) (h0 : 0 ≤ left) (h1 : left ≤ 1048576) (hA : PropsAt w n.pao n.props) (hS : Sized1 maxLen n) :
    Calls Try.prog 89 #[n.agg, .int .i64 left] w fun e w' => ∃ m : Int, e = .returned (.int .i64 m) ∧ m ≤ left ∧ -1 ≤ m ∧ (0 ≤ m → Sized1 1048576 n) ∧ Below w.heap.size w w' := by
  obtain ⟨hn, hp, hS⟩ := hS
  have hcall := fun z h0 h1 W (hW : Below w.heap.size w W) => szPropS_any n.props n.pao n.pcap z W h0 h1 hp (hA.stays hW) hS
  unfold maxLen at hn
  have HC := hide hcall
  clear hcall hA hS hp
  unfold NodG.agg
  go_enter Try.func89, Try.ntmps89
  go_wp2_with (first | (go_at_call 113; refine (HC.out _ (by omega) (by omega) _ ((Below.refl _ _).alloc (Nat.le_refl _) _)).mono ?_; rintro e w1 ⟨m, rfl, hm0, hm1, hm2, hb1⟩; have HM := hide hm2; clear hm2))
  · go_ret; exact ⟨-1, rfl, by omega, by omega, fun h => by omega, (Below.refl _ _).alloc (Nat.le_refl _) _⟩
  · go_ret; exact ⟨-1, rfl, by omega, by omega, fun h => by omega, ((Below.refl _ _).alloc (Nat.le_refl _) _).trans (hb1.mono (by simp))⟩
  · go_ret; exact ⟨_, rfl, by omega, by omega, fun h => ⟨by omega, (HM.out h).1, (HM.out h).2⟩, ((Below.refl _ _).alloc (Nat.le_refl _) _).trans (hb1.mono (by simp))⟩

set_option maxRecDepth 100000 in
set_option maxHeartbeats 400000 in
theorem szNodeS_any (l : List NodG) (ao : Option Addr) (cap : Nat) (w : World) (hl : l.length ≤ maxLen) (hA : NodesAt w ao l) (hS : ∀ n ∈ l, Sized1 maxLen n) :
    Calls Try.prog 51 #[.slice ao l.length cap, .int .i64 1048576] w fun e w' => ∃ m : Int, e = .returned (.int .i64 m) ∧ m ≤ 1048576 ∧ -1 ≤ m ∧ (0 ≤ m → l.length ≤ 1048576 ∧ ∀ n ∈ l, Sized1 1048576 n) ∧ Below w.heap.size w w' := by
  have hl' := hl
  unfold maxLen at hl
  have HA : Hid (NodesAt w ao l) := ⟨hA⟩
  have HS : Hid (∀ n ∈ l, Sized1 maxLen n) := ⟨hS⟩
  clear hA hS
  go_enter Try.func51, Try.ntmps51
  go_wp2
  · go_ret; exact ⟨-1, rfl, by omega, by omega, fun h => by omega, Below.refl _ _⟩
  go_loopw [1, 5] (fun m i wr => ∃ (k : Nat) (z : Int), k ≤ l.length ∧ i = .int .i64 k ∧ m = .int .i64 z ∧ 0 ≤ z ∧ z ≤ 1048576 ∧ (∀ j (hj : j < l.length), j < k → Sized1 1048576 l[j]) ∧ Below w.heap.size w wr) (fun _ i _ => l.length - (intOf i).toNat)
  case atStart => exact ⟨0, _, by omega, rfl, rfl, by omega, by omega, fun j hj h => by omega, Below.refl _ _⟩
  case round =>
    obtain ⟨k, z, hk, rfl, rfl, hz0, hz1, hall, hb⟩ := hrel
    have HL : Hid (∀ j (hj : j < l.length), j < k → Sized1 1048576 l[j]) := ⟨hall⟩
    clear hall
    by_cases h : k < l.length
    · obtain ⟨b, off, rfl, hlt, ho, hp⟩ := HA.out k h
      obtain ⟨c0, c1, c2, c3⟩ := ho.block (w' := wr) (hb.block b hlt)
      have hcall := szNode_any l[k] z wr hz0 hz1 (hp.stays hb) (HS.out _ (List.getElem_mem h))
      unfold NodG.agg at hcall
      have hi0 : (0 : Int) ≤ (k : Int) := by omega
      have hi1 : (k : Int) < (l.length : Int) := by omega
      clear ho hp
      go_wp2_with (first | (go_at_call 89; refine hcall.mono ?_; rintro e w1 ⟨m, rfl, hm0, hm1, hm2, hb1⟩; have HM := hide hm2; clear hm2))
      · go_ret; exact ⟨-1, rfl, by omega, by omega, fun h => by omega, hb.trans (hb1.mono hb.size)⟩
      · go_roundw
        case rel =>
          refine ⟨k + 1, m, by omega, by go_num, rfl, by omega, by omega, fun j hj hjk => ?_, hb.trans (hb1.mono hb.size)⟩
          rcases Nat.lt_or_ge j k with h' | h'
          · exact HL.out j hj h'
          · obtain rfl : j = k := by omega
            exact HM.out (by omega)
        case measure => simp [intOf]; omega
    · go_wp2
      go_ret
      refine ⟨_, rfl, by omega, by omega, fun _ => ⟨by omega, fun o ho => ?_⟩, hb⟩
      obtain ⟨j, hj, rfl⟩ := List.getElem_of_mem ho
      exact HL.out j hj (by omega)

set_option maxRecDepth 100000 in
set_option maxHeartbeats 400000 in
theorem szTree_any (l : List NodG) (ao : Option Addr) (cap : Nat) (w : World) (hl : l.length ≤ maxLen) (hA : NodesAt w ao l) (hS : ∀ n ∈ l, Sized1 maxLen n) :
    Calls Try.prog 20 #[.agg #[.slice ao l.length cap], .int .i64 1048576] w fun e w' => ∃ m : Int, e = .returned (.int .i64 m) ∧ m ≤ 1048576 ∧ -1 ≤ m ∧ (0 ≤ m → l.length ≤ 1048576 ∧ ∀ n ∈ l, Sized1 1048576 n) ∧ Below w.heap.size w w' := by
  have hcall := szNodeS_any l ao cap _ hl (hA.stays ((Below.refl _ _).alloc (Nat.le_refl _) (.cells #[.slice ao l.length cap] 38))) hS
  have HC := hide hcall
  clear hcall hA hS hl
  go_enter Try.func20, Try.ntmps20
  go_wp2_with (first | (go_at_call 51; refine HC.out.mono ?_; rintro e w1 ⟨m, rfl, hm0, hm1, hm2, hb1⟩; have HM := hide hm2; clear hm2))
  · go_ret; exact ⟨-1, rfl, by omega, by omega, fun h => by omega, ((Below.refl _ _).alloc (Nat.le_refl _) _).trans (hb1.mono (by simp))⟩
  · go_ret; exact ⟨_, rfl, by omega, by omega, HM.out, ((Below.refl _ _).alloc (Nat.le_refl _) _).trans (hb1.mono (by simp))⟩
end Go.Proofs.Ytcpgkalafkhlgae.OpR
namespace Go.Proofs.Ytcpgkalafkhlgae.OpR
open Go.ChangeShapes Go.WideShapes Go.ChangeAt Go.RowKit
set_option linter.unusedVariables false

section
variable {α : Type} {cs : α → List Value} {c : Nat}
def flatG (cs : α → List Value) (l : List α) : List Value := l.flatMap cs
theorem flatG_cons (x : α) (l : List α) : flatG cs (x :: l) = cs x ++ flatG cs l := by simp [flatG]
theorem flatG_app (a b : List α) : flatG cs (a ++ b) = flatG cs a ++ flatG cs b := by simp [flatG]
theorem flatG_len (hc : ∀ x, (cs x).length = c) (l : List α) : (flatG cs l).length = l.length * c := by
  induction l with
  | nil => simp [flatG]
  | cons o l ih => rw [flatG_cons, List.length_append, ih, hc, List.length_cons, Nat.succ_mul]; omega
theorem flatG_get (hc : ∀ x, (cs x).length = c) : ∀ (l : List α) (k f : Nat) (hk : k < l.length), f < c → (flatG cs l)[k * c + f]? = (cs l[k])[f]?
  | o :: l, 0, f, hk, hf => by
    rw [flatG_cons, Nat.zero_mul, Nat.zero_add, List.getElem?_append_left (by rw [hc]; exact hf)]; rfl
  | o :: l, k + 1, f, hk, hf => by
    rw [flatG_cons, List.getElem?_append_right (by rw [hc, Nat.succ_mul]; omega), hc, show (k + 1) * c + f - c = k * c + f by rw [Nat.succ_mul]; omega]
    exact flatG_get hc l k f (by simpa using hk) hf
theorem flatG_up (hc : ∀ x, (cs x).length = c) (x : α) (l : List α) (k f : Nat) (v : Value) : (cs x ++ l.flatMap cs).set ((k + 1) * c + f) v = cs x ++ (l.flatMap cs).set (k * c + f) v := by
  rw [List.set_append_right _ _ (by rw [hc, Nat.succ_mul]; omega), hc, show (k + 1) * c + f - c = k * c + f by rw [Nat.succ_mul]; omega]
theorem flatG_up' (hc : ∀ x, (cs x).length = c) (x : α) (r : List Value) (k f : Nat) (v : Value) : (cs x ++ r).set ((k + 1) * c + f) v = cs x ++ r.set (k * c + f) v := by
  rw [List.set_append_right _ _ (by rw [hc, Nat.succ_mul]; omega), hc, show (k + 1) * c + f - c = k * c + f by rw [Nat.succ_mul]; omega]
/-- The stores of an element's cells are the store of the element. -/
def setsG (r : List Value) (p : Nat) : List Value → List Value
  | [] => r
  | v :: vs => setsG (r.set p v) (p + 1) vs
theorem setsG_up (hc : ∀ x, (cs x).length = c) (x : α) (k : Nat) : ∀ (vs : List Value) (r : List Value) (f : Nat), setsG (cs x ++ r) ((k + 1) * c + f) vs = cs x ++ setsG r (k * c + f) vs
  | [], _, _ => rfl
  | v :: vs, r, f => by
    unfold setsG
    rw [flatG_up' hc, Nat.add_assoc, Nat.add_assoc, setsG_up hc x k vs]
theorem setsG_front : ∀ (vs us r : List Value) (pre : List Value), vs.length = us.length → setsG (pre ++ us ++ r) pre.length vs = pre ++ vs ++ r
  | [], [], r, pre, _ => rfl
  | v :: vs, u :: us, r, pre, h => by
    unfold setsG
    have e : (pre ++ u :: us ++ r).set pre.length v = (pre ++ [v]) ++ us ++ r := by
      rw [List.append_assoc, List.set_append_right _ _ (Nat.le_refl _), Nat.sub_self]
      simp
    rw [e]
    have := setsG_front vs us r (pre ++ [v]) (by simpa using h)
    rw [List.length_append] at this
    simpa using this
theorem flatG_set (hc : ∀ x, (cs x).length = c) : ∀ (l : List α) (k : Nat) (o : α), k < l.length → setsG (flatG cs l) (k * c) (cs o) = flatG cs (l.set k o)
  | x :: l, 0, o, hk => by
    rw [flatG_cons, List.set_cons_zero, flatG_cons, Nat.zero_mul]
    simpa using setsG_front (cs o) (cs x) (flatG cs l) [] (by rw [hc, hc])
  | x :: l, k + 1, o, hk => by
    rw [flatG_cons, List.set_cons_succ, flatG_cons, ← flatG_set hc l k o (by simpa using hk)]
    simpa using setsG_up hc x k (cs o) (flatG cs l) 0
/-- A block that holds just these, none frozen. -/
def InG (cs : α → List Value) (w : World) (g : Nat) (T : TypeId) (l : List α) : Prop := w.heap[g]? = some (.cells (flatG cs l).toArray T (0, 0))
variable {w w' : World} {g : Nat} {T : TypeId} {l : List α}
theorem InG.lt (h : InG cs w g T l) : g < w.heap.size := (Array.getElem?_eq_some_iff.1 h).1
theorem InG.cell (hc : ∀ x, (cs x).length = c) (h : InG cs w g T l) {k f : Nat} (hk : k < l.length) (hf : f < c) {v : Value} (hv : (cs l[k])[f]? = some v) : w.cell? ⟨g, k * c + f, none⟩ = some v := by
  have e := flatG_get hc l k f hk hf
  rw [hv] at e
  unfold InG at h
  simp [World.cell?, h, e]
theorem InG.frozen (h : InG cs w g T l) (p : Nat) : w.frozen? ⟨g, p, none⟩ = false := by
  unfold InG at h
  simp [World.frozen?, h]
theorem InG.block (h : InG cs w g T l) (e : w'.heap[g]? = w.heap[g]?) : InG cs w' g T l := e.trans h
theorem InG.stays (h : InG cs w g T l) (hb : Below w.heap.size w w') : InG cs w' g T l := h.block (hb.block g h.lt)
/-- It is a row that the call owns. -/
theorem InG.owns (hc : ∀ x, (cs x).length = c) (h : InG cs w g T l) {base : Nat} (hb : base ≤ g) (hm : l.length ≤ maxLen) : w.ownsRow base T c (.slice (some ⟨g, 0, none⟩) l.length l.length) l.length (flatG cs l) :=
  ⟨flatG_len hc l, .inr ⟨g, l.length, _, rfl, hb, h, Nat.le_refl _, hm, by simp [flatG_len hc], by rw [← flatG_len hc l]; simp⟩⟩
end
/-- A store into a block of cells. -/
def putsG (w : World) (g p : Nat) : List Value → World
  | [] => w
  | v :: vs => putsG (w.setCell ⟨g, p, none⟩ v) g (p + 1) vs
theorem puts_block {w : World} {g : Nat} {T : TypeId} : ∀ (vs : List Value) (r : List Value) (p : Nat) (w : World), w.heap[g]? = some (.cells r.toArray T (0, 0)) → (putsG w g p vs).heap[g]? = some (.cells (setsG r p vs).toArray T (0, 0))
  | [], _, _, _, h => h
  | v :: vs, r, p, w, h => by
    unfold putsG setsG
    refine puts_block (w := w) vs _ _ _ ?_
    have := set_block h p v
    rwa [List.setIfInBounds_toArray] at this
theorem puts_other {g b : Nat} (hne : b ≠ g) : ∀ (vs : List Value) (p : Nat) (w : World), (putsG w g p vs).heap[b]? = w.heap[b]?
  | [], _, _ => rfl
  | v :: vs, p, w => by
    unfold putsG
    rw [puts_other hne vs]
    exact Below.heap_setCell _ _ _ _ hne
theorem puts_below {B g : Nat} {a : World} (hg : B ≤ g) : ∀ (vs : List Value) (p : Nat) (w : World), Below B a w → Below B a (putsG w g p vs)
  | [], _, _, h => h
  | v :: vs, p, w, h => puts_below hg vs (p + 1) _ (h.setCell hg v)
theorem InG.store {α : Type} {cs : α → List Value} {c : Nat} {w : World} {g : Nat} {T : TypeId} {l : List α} (hc : ∀ x, (cs x).length = c) (h : InG cs w g T l) {k : Nat} (hk : k < l.length) (o : α) : InG cs (putsG w g (k * c) (cs o)) g T (l.set k o) := by
  have := puts_block (w := w) (cs o) _ (k * c) w h
  rw [flatG_set hc l k o hk] at this
  exact this

/-! ### props: two cells; nodes: four -/
theorem prop_len (p : PropV) : p.cells.length = 2 := rfl
theorem nod_len (n : NodG) : n.cells.length = 4 := rfl
def PropV.zero : PropV := ⟨⟨#[]⟩, ⟨#[]⟩⟩
def NodG.none0 : NodG := ⟨0, 0, ⟨#[]⟩, [], none, 0⟩
theorem made_cells {α : Type} {cs : α → List Value} {c : Nat} (hc : ∀ x, (cs x).length = c) (h0 : 0 < c) (z : α) (n : Nat) : madeCells (cs z).toArray (n * c) = (flatG cs (List.replicate n z)).toArray := by
  apply Array.ext_getElem?
  intro p
  by_cases hp : p < n * c
  · obtain ⟨k, f, rfl, hf⟩ : ∃ k f, p = k * c + f ∧ f < c := ⟨p / c, p % c, by rw [Nat.mul_comm]; exact (Nat.div_add_mod p c).symm, Nat.mod_lt _ h0⟩
    have hk : k < n := by
      refine Classical.byContradiction fun hn => ?_
      have : n * c ≤ k * c := Nat.mul_le_mul_right c (Nat.le_of_not_lt hn)
      omega
    have er : (flatG cs (List.replicate n z)).toArray[k * c + f]? = (cs z)[f]? := by
      rw [List.getElem?_toArray, flatG_get hc _ k f (by simpa using hk) hf, List.getElem_replicate]
    rw [er]
    simp only [madeCells, Array.getElem?_map]
    rw [Array.getElem?_eq_getElem (by simpa using hp)]
    simp only [Option.map_some, Array.getElem_range]
    have e : (k * c + f) % (cs z).toArray.size = f := by
      rw [List.size_toArray, hc, Nat.mul_comm, Nat.mul_add_mod]
      exact Nat.mod_eq_of_lt hf
    rw [e, List.getElem?_eq_getElem (by rw [hc]; exact hf)]
    congr 1
    rw [getElem!_pos _ _ (by simpa [hc] using hf)]
    simp
  · rw [Array.getElem?_eq_none (by rw [size_madeCells]; omega), Array.getElem?_eq_none (by simp [flatG_len hc]; omega)]
theorem infoProp : (Try.prog.info? 118).map (fun i => (i.zero, i.size, i.bytes)) = some (some (.agg #[.string ⟨#[]⟩, .string ⟨#[]⟩]), 2, 32) := by kernel_rfl
theorem infoNode : (Try.prog.info? 79).map (fun i => (i.zero, i.size, i.bytes)) = some (some (.agg #[.int .i64 0, .int .i64 0, .string ⟨#[]⟩, .slice none 0 0]), 4, 56) := by kernel_rfl
theorem make_props (n : Nat) (hn : n ≤ 1048576) (w : World) : (Instr.makeSlice 77 (.int .i64 (n : Int)) (.int .i64 (n : Int))).run Try.prog w = .ok (.slice (some ⟨w.heap.size, 0, none⟩) n n) (w.alloc (.cells (flatG PropV.cells (List.replicate n PropV.zero)).toArray 118)) := by
  obtain ⟨i, hi, hz⟩ := Option.map_eq_some_iff.1 infoProp
  simp only [Prod.mk.injEq] at hz
  obtain ⟨hz, hs, hb⟩ := hz
  have h := run_make (P := Try.prog) w 77 118 i _ Try.underlying77 hi hz .i64 .i64 n n (by omega) (by omega) (by rw [hb]; omega) (by omega)
  simp only [Int.toNat_natCast, hs] at h
  rw [← made_cells prop_len (by omega) PropV.zero n]
  exact h
theorem make_nodes (n : Nat) (hn : n ≤ 1048576) (w : World) : (Instr.makeSlice 41 (.int .i64 (n : Int)) (.int .i64 (n : Int))).run Try.prog w = .ok (.slice (some ⟨w.heap.size, 0, none⟩) n n) (w.alloc (.cells (flatG NodG.cells (List.replicate n NodG.none0)).toArray 79)) := by
  obtain ⟨i, hi, hz⟩ := Option.map_eq_some_iff.1 infoNode
  simp only [Prod.mk.injEq] at hz
  obtain ⟨hz, hs, hb⟩ := hz
  have h := run_make (P := Try.prog) w 41 79 i _ Try.underlying41 hi hz .i64 .i64 n n (by omega) (by omega) (by rw [hb]; omega) (by omega)
  simp only [Int.toNat_natCast, hs] at h
  rw [← made_cells nod_len (by omega) NodG.none0 n]
  exact h
theorem InG.propAt {w : World} {g : Nat} {T : TypeId} {l : List PropV} (h : InG PropV.cells w g T l) {k : Nat} (hk : k < l.length) : PropAt w g (k * 2) l[k] :=
  ⟨h.cell prop_len hk (f := 0) (by omega) rfl, h.cell prop_len hk (f := 1) (by omega) rfl⟩
theorem InG.nodAt {w : World} {g : Nat} {T : TypeId} {l : List NodG} (h : InG NodG.cells w g T l) {k : Nat} (hk : k < l.length) : NodAt w g (k * 4) l[k] :=
  ⟨h.cell nod_len hk (f := 0) (by omega) rfl, h.cell nod_len hk (f := 1) (by omega) rfl, h.cell nod_len hk (f := 2) (by omega) rfl, h.cell nod_len hk (f := 3) (by omega) rfl⟩
theorem InG.propsAt {w : World} {g : Nat} {T : TypeId} {l : List PropV} (h : InG PropV.cells w g T l) : PropsAt w (some ⟨g, 0, none⟩) l := fun j hj =>
  ⟨g, 0, rfl, h.lt, by rw [Nat.zero_add]; exact h.propAt hj⟩
/-- The first k of l, the rest z. -/
def partG {α : Type} (z : α) (l : List α) (n : Nat) : List α := l ++ List.replicate (n - l.length) z
theorem partG_len {α : Type} (z : α) (l : List α) (n : Nat) (h : l.length ≤ n) : (partG z l n).length = n := by simp [partG]; omega
theorem partG_set {α : Type} (z : α) (l : List α) (n : Nat) (x : α) (h : l.length < n) : (partG z l n).set l.length x = partG z (l ++ [x]) n := by
  unfold partG
  rw [List.set_append_right _ _ (Nat.le_refl _), Nat.sub_self, show n - l.length = (n - (l ++ [x]).length) + 1 by simp; omega, List.replicate_succ, List.set_cons_zero]
  simp
theorem partG_all {α : Type} (z : α) (l : List α) : partG z l l.length = l := by simp [partG]
theorem partG_nil {α : Type} (z : α) (n : Nat) : partG z [] n = List.replicate n z := by simp [partG]
end Go.Proofs.Ytcpgkalafkhlgae.OpR
namespace Go.Proofs.Ytcpgkalafkhlgae.OpR
open Go.ChangeShapes Go.WideShapes Go.ChangeAt Go.RowKit
set_option linter.unusedVariables false

set_option maxRecDepth 100000 in
set_option maxHeartbeats 400000 in
theorem toProp_any (p : PropV) (w : World) :
    Calls Try.prog 128 #[p.agg] w fun e w' => e = .returned p.agg ∧ Below w.heap.size w w' := by
  unfold PropV.agg
  go_enter Try.func128, Try.ntmps128
  go_wp2
  exact bodyPost_ret (v := .agg #[.string p.key, .string p.value]) (by simp [results, Try.results128, go_sem]) rfl ⟨rfl, (((Below.refl _ _).alloc (Nat.le_refl _) _).alloc (by simp) _).alloc (by simp; omega) _⟩

set_option maxRecDepth 100000 in
set_option maxHeartbeats 400000 in
theorem toPropS_any (l : List PropV) (ao : Option Addr) (cap : Nat) (w : World) (hl : l.length ≤ 1048576) (hA : PropsAt w ao l) :
    Calls Try.prog 114 #[.slice ao l.length cap] w fun e w' => e = .returned (.slice (some ⟨w.heap.size, 0, none⟩) l.length l.length) ∧ InG PropV.cells w' w.heap.size 118 l ∧ Below w.heap.size w w' := by
  have HA : Hid (PropsAt w ao l) := ⟨hA⟩
  have hmk := make_props l.length hl
  clear hA
  go_enter Try.func114, Try.ntmps114
  go_wp2
  go_loopw [4] (fun i wr => ∃ k : Nat, k ≤ l.length ∧ i = .int .i64 k ∧ InG PropV.cells wr w.heap.size 118 (partG PropV.zero (l.take k) l.length) ∧ Below w.heap.size w wr) (fun i _ => l.length - (intOf i).toNat)
  case atStart => exact ⟨0, by omega, rfl, by rw [List.take_zero, partG_nil]; exact heap_alloc_new w _, (Below.refl _ _).alloc (Nat.le_refl _) _⟩
  case round =>
    obtain ⟨k, hk, rfl, hO, hb⟩ := hrel
    have HO : Hid (InG PropV.cells wr w.heap.size 118 (partG PropV.zero (l.take k) l.length)) := ⟨hO⟩
    clear hO
    by_cases h : k < l.length
    · obtain ⟨b, off, rfl, hlt, ho⟩ := HA.out k h
      obtain ⟨c0, c1⟩ := ho.block (w' := wr) (hb.block b hlt)
      have hcall := toProp_any l[k] wr
      unfold PropV.agg at hcall
      have hi0 : (0 : Int) ≤ (k : Int) := by omega
      have hi1 : (k : Int) < (l.length : Int) := by omega
      have Hlen : Hid (k < (partG PropV.zero (l.take k) l.length).length) := ⟨by rw [partG_len _ _ _ (by simp; omega)]; exact h⟩
      clear ho
      go_wp2_with (first | (go_at_call 128; refine hcall.mono ?_; rintro e w1 ⟨rfl, hb1⟩; obtain ⟨d0, d1⟩ := (HO.out.stays hb1).propAt Hlen.out; have f0 := (HO.out.stays hb1).frozen (k * 2); have f1 := (HO.out.stays hb1).frozen (k * 2 + 1); clear c0 c1))
      go_roundw
      case rel =>
        have hst := (HO.out.stays hb1).store prop_len Hlen.out l[k]
        have e : (partG PropV.zero (l.take k) l.length).set k l[k] = partG PropV.zero (l.take (k + 1)) l.length := by
          have := partG_set PropV.zero (l.take k) l.length l[k] (by simp; omega)
          rw [List.length_take, Nat.min_eq_left hk] at this
          rw [this, List.take_add_one, List.getElem?_eq_getElem h]; rfl
        rw [e] at hst
        exact ⟨k + 1, by omega, by go_num, hst, puts_below (Nat.le_refl _) l[k].cells (k * 2) w1 (hb.trans (hb1.mono hb.size))⟩
      case measure => simp [intOf]; omega
    · obtain rfl : k = l.length := by omega
      go_wp2
      go_ret
      have hO := HO.out
      rw [List.take_length, partG_all] at hO
      exact ⟨rfl, hO, hb⟩

theorem last3 (w : World) (a b c : Obj) : (((w.alloc a).alloc b).alloc c).heap[w.heap.size + 1 + 1]? = some c := by
  have := heap_alloc_new ((w.alloc a).alloc b) c
  simpa using this
theorem mid3 (w : World) (a b c : Obj) : (((w.alloc a).alloc b).alloc c).heap[w.heap.size + 1]? = some b := by
  have := heap_alloc_new (w.alloc a) b
  rw [Below.heap_alloc _ _ _ (by simp)]
  simpa using this
theorem cells4 {w : World} {g : Nat} {v0 v1 v2 v3 : Value} {T : TypeId} (h : w.heap[g]? = some (.cells #[v0, v1, v2, v3] T (0, 0))) :
    w.cell? ⟨g, 0, none⟩ = some v0 ∧ w.cell? ⟨g, 1, none⟩ = some v1 ∧ w.cell? ⟨g, 2, none⟩ = some v2 ∧ w.cell? ⟨g, 3, none⟩ = some v3 ∧ w.frozen? ⟨g, 0, none⟩ = false ∧ w.frozen? ⟨g, 1, none⟩ = false ∧ w.frozen? ⟨g, 2, none⟩ = false ∧ w.frozen? ⟨g, 3, none⟩ = false := by
  refine ⟨by simp [World.cell?, h], by simp [World.cell?, h], by simp [World.cell?, h], by simp [World.cell?, h], by simp [World.frozen?, h], by simp [World.frozen?, h], by simp [World.frozen?, h], by simp [World.frozen?, h]⟩

set_option maxRecDepth 100000 in
set_option maxHeartbeats 400000 in
theorem toNode_any (n : NodG) (w : World) (hl : n.props.length ≤ 1048576) (hA : PropsAt w n.pao n.props) :
    Calls Try.prog 91 #[n.agg] w fun e w' => ∃ h, e = .returned (.agg #[.int .i64 n.id, .int .i64 n.parent, .string n.name, .slice (some ⟨h, 0, none⟩) n.props.length n.props.length]) ∧ w.heap.size ≤ h ∧ InG PropV.cells w' h 118 n.props ∧ Below w.heap.size w w' := by
  have hcall := fun W (hW : Below w.heap.size w W) => toPropS_any n.props n.pao n.pcap W hl (hA.stays hW)
  have HC := hide hcall
  clear hcall hA
  unfold NodG.agg
  go_enter Try.func91, Try.ntmps91
  go_wp2_with (first | (go_at_call 114; refine (HC.out _ ((((Below.refl _ _).alloc (Nat.le_refl _) _).alloc (by simp) _).alloc (by simp; omega) _)).mono ?_; rintro e w1 ⟨rfl, hI, hb1⟩; obtain ⟨k0, k1, k2, k3, f0, f1, f2, f3⟩ := cells4 ((hb1.block (w.heap.size + 1 + 1) (by simp)).trans (last3 _ _ _ _)); obtain ⟨r0, r1, r2, r3, q0, q1, q2, q3⟩ := cells4 ((hb1.block (w.heap.size + 1) (by simp)).trans (mid3 _ _ _ _)); have HI := hide hI; have HB := hide hb1; clear hI hb1))
  have hI : InG PropV.cells w1 (w.heap.size + 1 + 1 + 1) 118 n.props := by simpa using HI.out
  have hB : Below w.heap.size w w1 := ((((Below.refl _ _).alloc (Nat.le_refl _) _).alloc (by simp) _).alloc (by simp; omega) _).trans (HB.out.mono (by simp; omega))
  refine bodyPost_ret (v := .agg #[.int .i64 n.id, .int .i64 n.parent, .string n.name, .slice (some ⟨w.heap.size + 1 + 1 + 1, 0, none⟩) n.props.length n.props.length]) (by simp [results, Try.results91, go_sem, r0, r1, r2, r3]) rfl ⟨_, rfl, by omega, ?_, ?_⟩
  · exact (hI.block (Below.heap_setCell w1 ⟨w.heap.size + 1 + 1, 3, none⟩ (.slice (some ⟨w.heap.size + 1 + 1 + 1, 0, none⟩) n.props.length n.props.length) (w.heap.size + 1 + 1 + 1) (by simp))).block (puts_other (g := w.heap.size + 1) (b := w.heap.size + 1 + 1 + 1) (by omega) [.int .i64 n.id, .int .i64 n.parent, .string n.name, .slice (some ⟨w.heap.size + 1 + 1 + 1, 0, none⟩) n.props.length n.props.length] 0 _)
  · exact puts_below (g := w.heap.size + 1) (by omega) [.int .i64 n.id, .int .i64 n.parent, .string n.name, .slice (some ⟨w.heap.size + 1 + 1 + 1, 0, none⟩) n.props.length n.props.length] 0 _ (hB.setCell (p := ⟨w.heap.size + 1 + 1, 3, none⟩) (by simp; omega) _)

/-- A node without the place of its props. -/
def NodG.bare (n : NodG) : NodG := { n with pao := none, pcap := 0 }
/-- Nodes and props in rows that the call owns, no two in one. -/
structure TreeOwn (w : World) (base : Nat) (v : Value) (l : List NodG) : Prop where
  row : w.ownsRow base 79 4 v l.length (flatG NodG.cells l)
  props : ∀ n ∈ l, w.ownsRow base 118 2 (.slice n.pao n.props.length n.pcap) n.props.length (flatG PropV.cells n.props)
  apart : l.Pairwise fun a b => ∀ x y, a.pao = some x → b.pao = some y → x.block ≠ y.block
  off : ∀ n ∈ l, ∀ x, n.pao = some x → v.ownBlock ≠ some x.block
theorem props_own {w : World} {base : Nat} {T : TypeId} {ao : Option Addr} {cap : Nat} {l : List PropV} (h : w.ownsRow base T 2 (.slice ao l.length cap) l.length (flatG PropV.cells l)) : PropsAt w ao l := by
  rcases h.2 with ⟨e, hn⟩ | ⟨g, cap', cur, e, hb, hg, h1, h2, h3, h4⟩
  · rw [List.eq_nil_of_length_eq_zero hn]
    exact fun j hj => absurd hj (by simp)
  · simp only [Value.slice.injEq] at e
    obtain ⟨rfl, _, _⟩ := e
    intro j hj
    refine ⟨g, 0, rfl, (Array.getElem?_eq_some_iff.1 hg).1, ?_⟩
    have hc := fun f (hf : f < 2) (u : Value) (hu : l[j].cells[f]? = some u) => h.cells rfl (j * 2 + f) u ((flatG_get prop_len l j f hj hf).trans hu)
    simp only [Addr.add_lit] at hc
    exact ⟨hc 0 (by omega) _ rfl, hc 1 (by omega) _ rfl⟩
theorem TreeOwn.nodesAt {w : World} {base : Nat} {ao : Option Addr} {cap : Nat} {l : List NodG} (h : TreeOwn w base (.slice ao l.length cap) l) : NodesAt w ao l := by
  rcases h.row.2 with ⟨e, hn⟩ | ⟨g, cap', cur, e, hb, hg, h1, h2, h3, h4⟩
  · rw [List.eq_nil_of_length_eq_zero hn]
    exact fun j hj => absurd hj (by simp)
  · simp only [Value.slice.injEq] at e
    obtain ⟨rfl, _, _⟩ := e
    intro j hj
    refine ⟨g, 0, rfl, (Array.getElem?_eq_some_iff.1 hg).1, ?_, props_own (h.props _ (List.getElem_mem hj))⟩
    have hc := fun f (hf : f < 4) (u : Value) (hu : l[j].cells[f]? = some u) => h.row.cells rfl (j * 4 + f) u ((flatG_get nod_len l j f hj hf).trans hu)
    simp only [Addr.add_lit] at hc
    exact ⟨hc 0 (by omega) _ rfl, hc 1 (by omega) _ rfl, hc 2 (by omega) _ rfl, hc 3 (by omega) _ rfl⟩
theorem TreeOwn.stays {w w' : World} {base : Nat} {v : Value} {l : List NodG} (h : TreeOwn w base v l) (hb : Below w.heap.size w w') : TreeOwn w' base v l :=
  ⟨h.row.kept (row := none) ⟨hb.os, hb.tape, hb.output, hb.size, fun k hk _ => hb.block k hk⟩ (by cases hv : v.ownBlock <;> simp), fun n hn => (h.props n hn).kept (row := none) ⟨hb.os, hb.tape, hb.output, hb.size, fun k hk _ => hb.block k hk⟩ (by cases hv : (Value.slice n.pao n.props.length n.pcap).ownBlock <;> simp), h.apart, h.off⟩

theorem owns_moved {w w' : World} {base : Nat} {e : TypeId} {size : Nat} {v : Value} {n : Nat} {xs : List Value} (h : w.ownsRow base e size v n xs) (he : ∀ g, base ≤ g → w'.heap[g]? = w.heap[g]?) : w'.ownsRow base e size v n xs := by
  refine ⟨h.1, h.2.imp id fun ⟨g, cap, cur, e1, hb, hg, r⟩ => ⟨g, cap, cur, e1, hb, (he g hb).trans hg, r⟩⟩
theorem owns_lower {w : World} {base base' : Nat} {e : TypeId} {size : Nat} {v : Value} {n : Nat} {xs : List Value} (h : w.ownsRow base e size v n xs) (hb : base' ≤ base) : w.ownsRow base' e size v n xs := by
  refine ⟨h.1, h.2.imp id fun ⟨g, cap, cur, e1, h1, r⟩ => ⟨g, cap, cur, e1, Nat.le_trans hb h1, r⟩⟩
theorem TreeOwn.moved {w w' : World} {base : Nat} {v : Value} {l : List NodG} (h : TreeOwn w base v l) (he : ∀ g, base ≤ g → w'.heap[g]? = w.heap[g]?) : TreeOwn w' base v l :=
  ⟨owns_moved h.row he, fun n hn => owns_moved (h.props n hn) he, h.apart, h.off⟩
theorem TreeOwn.lower {w : World} {base base' : Nat} {v : Value} {l : List NodG} (h : TreeOwn w base v l) (hb : base' ≤ base) : TreeOwn w base' v l :=
  ⟨owns_lower h.row hb, fun n hn => owns_lower (h.props n hn) hb, h.apart, h.off⟩

/-- What lies in a tree that is being copied. -/
structure Copied (w : World) (G : Nat) (l d : List NodG) : Prop where
  bare : d.map NodG.bare = (l.take d.length).map NodG.bare
  row : InG NodG.cells w G 79 (partG NodG.none0 d l.length)
  props : ∀ n ∈ d, ∃ h, n.pao = some ⟨h, 0, none⟩ ∧ n.pcap = n.props.length ∧ G < h ∧ n.props.length ≤ 1048576 ∧ InG PropV.cells w h 118 n.props
  apart : d.Pairwise fun a b => ∀ x y, a.pao = some x → b.pao = some y → x.block ≠ y.block
theorem Copied.stays {w w' : World} {G : Nat} {l d : List NodG} (h : Copied w G l d) (hb : Below w.heap.size w w') : Copied w' G l d :=
  ⟨h.bare, h.row.stays hb, fun n hn => by obtain ⟨g, h1, h2, h3, h4, h5⟩ := h.props n hn; exact ⟨g, h1, h2, h3, h4, h5.stays hb⟩, h.apart⟩
theorem Copied.step {w : World} {G : Nat} {l d : List NodG} (h : Copied w G l d) (hd : d.length < l.length) (n : NodG) (hn : n.bare = l[d.length].bare) {g : Nat} (h1 : n.pao = some ⟨g, 0, none⟩) (h2 : n.pcap = n.props.length) (hG : G < g) (h3 : n.props.length ≤ 1048576)
    (h4 : InG PropV.cells w g 118 n.props) (h5 : ∀ m ∈ d, ∀ x, m.pao = some x → x.block < g) : Copied (putsG w G (d.length * 4) n.cells) G l (d ++ [n]) := by
  refine ⟨?_, ?_, fun m hm => ?_, ?_⟩
  · rw [List.length_append, List.map_append, h.bare]
    simp only [List.length_cons, List.length_nil, Nat.zero_add, List.map_cons, List.map_nil, List.map_take]
    rw [List.take_add_one, List.getElem?_eq_getElem (by simpa using hd), hn]
    simp
  · have := h.row.store nod_len (k := d.length) (by rw [partG_len _ _ _ (by omega)]; exact hd) n
    rwa [partG_set _ _ _ _ hd] at this
  · rcases List.mem_append.1 hm with hm | hm
    · obtain ⟨g', e1, e2, e3, e4, e5⟩ := h.props m hm
      exact ⟨g', e1, e2, e3, e4, e5.block (puts_other (by omega) _ _ _)⟩
    · obtain rfl := List.mem_singleton.1 hm
      exact ⟨g, h1, h2, hG, h3, h4.block (puts_other (by omega) _ _ _)⟩
  · rw [List.pairwise_append]
    refine ⟨h.apart, by simp, fun a ha b hb x y hx hy => ?_⟩
    obtain rfl := List.mem_singleton.1 hb
    rw [h1] at hy
    cases hy
    have := h5 a ha x hx
    simp
    omega
theorem Copied.done {w : World} {G base : Nat} {l d : List NodG} (h : Copied w G l d) (hd : d.length = l.length) (hl : l.length ≤ 1048576) (hb : base ≤ G) : TreeOwn w base (.slice (some ⟨G, 0, none⟩) d.length d.length) d ∧ d.map NodG.bare = l.map NodG.bare := by
  have hr := h.row
  rw [← hd, partG_all] at hr
  refine ⟨⟨hr.owns nod_len hb (by unfold maxLen; omega), fun n hn => ?_, h.apart, fun n hn x hx => ?_⟩, ?_⟩
  · obtain ⟨g, e1, e2, e3, e4, e5⟩ := h.props n hn
    rw [e1, e2]
    exact e5.owns prop_len (by omega) (by unfold maxLen; omega)
  · obtain ⟨g, e1, e2, e3, e4, e5⟩ := h.props n hn
    rw [e1] at hx
    cases hx
    simp [Value.ownBlock]
    omega
  · have := h.bare
    rwa [hd, List.take_length] at this

set_option maxRecDepth 100000 in
set_option maxHeartbeats 400000 in
theorem toNodeS_any (l : List NodG) (ao : Option Addr) (cap : Nat) (w : World) (hl : l.length ≤ 1048576) (hA : NodesAt w ao l) (hS : ∀ n ∈ l, n.props.length ≤ 1048576) :
    Calls Try.prog 56 #[.slice ao l.length cap] w fun e w' => ∃ d : List NodG, e = .returned (.slice (some ⟨w.heap.size, 0, none⟩) d.length d.length) ∧ TreeOwn w' w.heap.size (.slice (some ⟨w.heap.size, 0, none⟩) d.length d.length) d ∧ d.map NodG.bare = l.map NodG.bare ∧ Below w.heap.size w w' := by
  have HA : Hid (NodesAt w ao l) := ⟨hA⟩
  have HS := hide hS
  have hmk := make_nodes l.length hl
  clear hA hS
  go_enter Try.func56, Try.ntmps56
  go_wp2
  go_loopw [4] (fun i wr => ∃ d : List NodG, d.length ≤ l.length ∧ i = .int .i64 d.length ∧ Copied wr w.heap.size l d ∧ Below w.heap.size w wr) (fun i _ => l.length - (intOf i).toNat)
  case atStart => exact ⟨[], by simp, rfl, ⟨by simp, by rw [partG_nil]; exact heap_alloc_new w _, by simp, by simp⟩, (Below.refl _ _).alloc (Nat.le_refl _) _⟩
  case round =>
    obtain ⟨d, hk, rfl, hO, hb⟩ := hrel
    have HO := hide hO
    have hwlt := hO.row.lt
    clear hO
    obtain ⟨k, hkd⟩ : ∃ k, d.length = k := ⟨_, rfl⟩
    have HK := hide hkd
    simp only [hkd] at hk ⊢
    clear hkd
    by_cases h : k < l.length
    · obtain ⟨b, off, rfl, hlt, ho, hp⟩ := HA.out k h
      obtain ⟨c0, c1, c2, c3⟩ := ho.block (w' := wr) (hb.block b hlt)
      have hcall := toNode_any l[k] wr (HS.out _ (List.getElem_mem h)) (hp.stays hb)
      unfold NodG.agg at hcall
      have hi0 : (0 : Int) ≤ (k : Int) := by omega
      have hi1 : (k : Int) < (l.length : Int) := by omega
      have Hlen : Hid (k < (partG NodG.none0 d l.length).length) := ⟨by rw [partG_len _ _ _ (by rw [HK.out]; exact hk)]; exact h⟩
      clear ho hp
      go_wp2_with (first | (go_at_call 91; refine hcall.mono ?_; rintro e w1 ⟨g, rfl, hg1, hg2, hb1⟩; have HG := hide hg2; clear hg2; obtain ⟨d0, d1, d2, d3⟩ := (HO.out.row.stays hb1).nodAt Hlen.out; have f0 := (HO.out.row.stays hb1).frozen (k * 4); have f1 := (HO.out.row.stays hb1).frozen (k * 4 + 1); have f2 := (HO.out.row.stays hb1).frozen (k * 4 + 2); have f3 := (HO.out.row.stays hb1).frozen (k * 4 + 3); clear c0 c1 c2 c3))
      go_roundw
      case rel =>
        have hd : d.length < l.length := by rw [HK.out]; exact h
        have hst := (HO.out.stays hb1).step hd ⟨l[k].id, l[k].parent, l[k].name, l[k].props, some ⟨g, 0, none⟩, l[k].props.length⟩ (by simp only [HK.out]; rfl) rfl rfl (by omega) (HS.out l[k] (List.getElem_mem h)) HG.out (fun m hm x hx => by
          obtain ⟨g', e1, _, _, _, e5⟩ := HO.out.props m hm
          rw [e1] at hx
          cases hx
          have := e5.lt
          simp
          omega)
        rw [HK.out] at hst
        exact ⟨_, by simp; omega, by simp [HK.out], hst, puts_below (Nat.le_refl _) (NodG.cells ⟨l[k].id, l[k].parent, l[k].name, l[k].props, some ⟨g, 0, none⟩, l[k].props.length⟩) (k * 4) w1 (hb.trans (hb1.mono hb.size))⟩
      case measure => simp [intOf]; omega
    · obtain rfl : k = l.length := by omega
      go_wp2
      go_ret
      obtain ⟨h1, h2⟩ := HO.out.done HK.out hl (Nat.le_refl _)
      exact ⟨d, by rw [HK.out]; rfl, h1, h2, hb⟩

theorem cells1 {w : World} {g : Nat} {v0 : Value} {T : TypeId} (h : w.heap[g]? = some (.cells #[v0] T (0, 0))) : w.cell? ⟨g, 0, none⟩ = some v0 ∧ w.frozen? ⟨g, 0, none⟩ = false :=
  ⟨by simp [World.cell?, h], by simp [World.frozen?, h]⟩
theorem last2 (w : World) (a b : Obj) : ((w.alloc a).alloc b).heap[w.heap.size + 1]? = some b := by
  have := heap_alloc_new (w.alloc a) b
  simpa using this
set_option maxRecDepth 100000 in
set_option maxHeartbeats 400000 in
theorem toTree_any (l : List NodG) (ao : Option Addr) (cap : Nat) (w : World) (hl : l.length ≤ 1048576) (hA : NodesAt w ao l) (hS : ∀ n ∈ l, n.props.length ≤ 1048576) :
    Calls Try.prog 22 #[.agg #[.slice ao l.length cap]] w fun e w' => ∃ (d : List NodG) (g : Nat), e = .returned (.agg #[.slice (some ⟨g, 0, none⟩) d.length d.length]) ∧ TreeOwn w' w.heap.size (.slice (some ⟨g, 0, none⟩) d.length d.length) d ∧ d.map NodG.bare = l.map NodG.bare ∧ Below w.heap.size w w' := by
  have hcall := fun W (hW : Below w.heap.size w W) => toNodeS_any l ao cap W hl (hA.stays hW) hS
  have HC := hide hcall
  clear hcall hA hS
  go_enter Try.func22, Try.ntmps22
  go_wp2_with (first | (go_at_call 56; refine (HC.out _ ((((Below.refl _ _).alloc (Nat.le_refl _) _).alloc (by simp) _).alloc (by simp; omega) _)).mono ?_; rintro e w1 ⟨d, rfl, hI, hd, hb1⟩; obtain ⟨k0, f0⟩ := cells1 ((hb1.block (w.heap.size + 1 + 1) (by simp)).trans (last3 _ _ _ _)); obtain ⟨r0, q0⟩ := cells1 ((hb1.block (w.heap.size + 1) (by simp)).trans (mid3 _ _ _ _)); have HI := hide hI; have HB := hide hb1; have HD := hide hd; clear hI hb1 hd))
  have hI : TreeOwn w1 (w.heap.size + 1 + 1 + 1) (.slice (some ⟨w.heap.size + 1 + 1 + 1, 0, none⟩) d.length d.length) d := by simpa using HI.out
  have hB : Below w.heap.size w w1 := ((((Below.refl _ _).alloc (Nat.le_refl _) _).alloc (by simp) _).alloc (by simp; omega) _).trans (HB.out.mono (by simp; omega))
  refine bodyPost_ret (v := .agg #[.slice (some ⟨w.heap.size + 1 + 1 + 1, 0, none⟩) d.length d.length]) (by simp [results, Try.results22, go_sem, r0]) rfl ⟨d, _, rfl, ?_, HD.out, ?_⟩
  · refine (hI.moved (fun g hg => ?_)).lower (by omega)
    rw [Below.heap_setCell _ _ _ _ (by simp; omega), Below.heap_setCell _ _ _ _ (by simp; omega)]
  · exact (hB.setCell (by simp; omega) _).setCell (by simp) _

set_option maxRecDepth 100000 in
set_option maxHeartbeats 400000 in
theorem eqProp_same (p : PropV) (w : World) :
    Calls Try.prog 129 #[p.agg, p.agg] w fun e w' => e = .returned (.bool true) ∧ Below w.heap.size w w' := by
  unfold PropV.agg
  go_enter Try.func129, Try.ntmps129
  go_wp2
  go_ret
  exact ⟨rfl, ((Below.refl _ _).alloc (Nat.le_refl _) _).alloc (by simp) _⟩

set_option maxRecDepth 100000 in
set_option maxHeartbeats 400000 in
theorem eqPropS_same (l : List PropV) (ao1 ao2 : Option Addr) (cap1 cap2 : Nat) (w : World) (hl : l.length ≤ maxLen) (hA : PropsAt w ao1 l) (hC : PropsAt w ao2 l) :
    Calls Try.prog 119 #[.slice ao1 l.length cap1, .slice ao2 l.length cap2] w fun e w' => e = .returned (.bool true) ∧ Below w.heap.size w w' := by
  unfold maxLen at hl
  have HA : Hid (PropsAt w ao1 l) := ⟨hA⟩
  have HC : Hid (PropsAt w ao2 l) := ⟨hC⟩
  clear hA hC
  go_enter Try.func119, Try.ntmps119
  go_wp2
  go_loopw [5] (fun i wr => ∃ k : Nat, k ≤ l.length ∧ i = .int .i64 k ∧ Below w.heap.size w wr) (fun i _ => l.length - (intOf i).toNat)
  case atStart => exact ⟨0, by omega, rfl, Below.refl _ _⟩
  case round =>
    obtain ⟨k, hk, rfl, hb⟩ := hrel
    by_cases h : k < l.length
    · obtain ⟨b, off, rfl, hlt, ho⟩ := HA.out k h
      obtain ⟨c0, c1⟩ := ho.block (w' := wr) (hb.block b hlt)
      obtain ⟨b2, off2, rfl, hlt2, ho2⟩ := HC.out k h
      obtain ⟨d0, d1⟩ := ho2.block (w' := wr) (hb.block b2 hlt2)
      have hcall := eqProp_same l[k] wr.drew
      unfold PropV.agg at hcall
      have hi0 : (0 : Int) ≤ (k : Int) := by omega
      have hi1 : (k : Int) < (l.length : Int) := by omega
      clear ho ho2
      go_wp2
      go_region_with (go_at_call 129; refine hcall.mono ?_; rintro e w1 ⟨rfl, hb1⟩)
      all_goals (
        go_wp2
        go_roundw
        case rel => exact ⟨k + 1, by omega, by go_num, hb.drew.trans (hb1.mono hb.size)⟩
        case measure => simp [intOf]; omega)
    · obtain rfl : k = l.length := by omega
      go_wp2
      go_ret
      exact ⟨rfl, hb⟩

set_option maxRecDepth 100000 in
set_option maxHeartbeats 400000 in
theorem eqNode_same (n m : NodG) (w : World) (he : n.bare = m.bare) (hl : n.props.length ≤ maxLen) (hA : PropsAt w n.pao n.props) (hC : PropsAt w m.pao m.props) :
    Calls Try.prog 95 #[n.agg, m.agg] w fun e w' => e = .returned (.bool true) ∧ Below w.heap.size w w' := by
  obtain ⟨i, p, s, ps, a, c⟩ := n
  obtain ⟨i', p', s', ps', a', c'⟩ := m
  simp only [NodG.bare, NodG.mk.injEq, and_true] at he
  obtain ⟨rfl, rfl, rfl, rfl⟩ := he
  have hcall := fun W (hW : Below w.heap.size w W) => eqPropS_same ps a a' c c' W hl (hA.stays hW) (hC.stays hW)
  have HC := hide hcall
  clear hcall hA hC hl
  unfold NodG.agg
  simp only
  go_enter Try.func95, Try.ntmps95
  go_wp2_with (first | (go_at_call 119; refine (HC.out _ (((Below.refl _ _).alloc (Nat.le_refl _) _).alloc (by simp) _)).mono ?_; rintro e w1 ⟨rfl, hb1⟩))
  go_ret
  exact ⟨rfl, (((Below.refl _ _).alloc (Nat.le_refl _) _).alloc (by simp) _).trans (hb1.mono (by simp; omega))⟩

theorem bare_at {l d : List NodG} (h : d.map NodG.bare = l.map NodG.bare) {k : Nat} (hk : k < l.length) : ∃ hd : k < d.length, d[k].bare = l[k].bare := by
  have hl : d.length = l.length := by simpa using congrArg List.length h
  have hd : k < d.length := by omega
  have e := congrArg (fun x => x[k]?) h
  simp only [List.getElem?_map, List.getElem?_eq_getElem hd, List.getElem?_eq_getElem hk, Option.map_some, Option.some.injEq] at e
  exact ⟨hd, e⟩
set_option maxRecDepth 100000 in
set_option maxHeartbeats 400000 in
theorem eqNodeS_same (l d : List NodG) (ao1 ao2 : Option Addr) (cap1 cap2 : Nat) (w : World) (hbr : d.map NodG.bare = l.map NodG.bare) (hl : l.length ≤ maxLen) (hS : ∀ n ∈ l, n.props.length ≤ maxLen) (hA : NodesAt w ao1 l) (hC : NodesAt w ao2 d) :
    Calls Try.prog 61 #[.slice ao1 l.length cap1, .slice ao2 d.length cap2] w fun e w' => e = .returned (.bool true) ∧ Below w.heap.size w w' := by
  unfold maxLen at hl
  have hlen : d.length = l.length := by simpa using congrArg List.length hbr
  rw [hlen]
  have HL := hide hlen
  have HR := hide hbr
  have HS := hide hS
  have HA : Hid (NodesAt w ao1 l) := ⟨hA⟩
  have HC : Hid (NodesAt w ao2 d) := ⟨hC⟩
  clear hA hC hS hbr hlen
  go_enter Try.func61, Try.ntmps61
  go_wp2
  go_loopw [5] (fun i wr => ∃ k : Nat, k ≤ l.length ∧ i = .int .i64 k ∧ Below w.heap.size w wr) (fun i _ => l.length - (intOf i).toNat)
  case atStart => exact ⟨0, by omega, rfl, Below.refl _ _⟩
  case round =>
    obtain ⟨k, hk, rfl, hb⟩ := hrel
    by_cases h : k < l.length
    · obtain ⟨hd, hbk⟩ := bare_at HR.out h
      obtain ⟨b, off, rfl, hlt, ho, hp⟩ := HA.out k h
      obtain ⟨c0, c1, c2, c3⟩ := ho.block (w' := wr) (hb.block b hlt)
      obtain ⟨b2, off2, rfl, hlt2, ho2, hp2⟩ := HC.out k hd
      obtain ⟨d0, d1, d2, d3⟩ := ho2.block (w' := wr) (hb.block b2 hlt2)
      have hcall := eqNode_same l[k] d[k] wr.drew hbk.symm (HS.out _ (List.getElem_mem h)) (hp.stays hb.drew) (hp2.stays hb.drew)
      unfold NodG.agg at hcall
      have hi0 : (0 : Int) ≤ (k : Int) := by omega
      have hi1 : (k : Int) < (l.length : Int) := by omega
      clear ho ho2 hp hp2 hbk
      go_wp2
      go_region_with (go_at_call 95; refine hcall.mono ?_; rintro e w1 ⟨rfl, hb1⟩)
      all_goals (
        go_wp2
        go_roundw
        case rel => exact ⟨k + 1, by omega, by go_num, hb.drew.trans (hb1.mono hb.size)⟩
        case measure => simp [intOf]; omega)
    · obtain rfl : k = l.length := by omega
      go_wp2
      go_ret
      exact ⟨rfl, hb⟩

set_option maxRecDepth 100000 in
set_option maxHeartbeats 400000 in
theorem eqTree_same (l d : List NodG) (ao1 ao2 : Option Addr) (cap1 cap2 : Nat) (w : World) (hbr : d.map NodG.bare = l.map NodG.bare) (hl : l.length ≤ maxLen) (hS : ∀ n ∈ l, n.props.length ≤ maxLen) (hA : NodesAt w ao1 l) (hC : NodesAt w ao2 d) :
    Calls Try.prog 24 #[.agg #[.slice ao1 l.length cap1], .agg #[.slice ao2 d.length cap2]] w fun e w' => e = .returned (.bool true) ∧ Below w.heap.size w w' := by
  have hcall := fun W (hW : Below w.heap.size w W) => eqNodeS_same l d ao1 ao2 cap1 cap2 W hbr hl hS (hA.stays hW) (hC.stays hW)
  have HC := hide hcall
  clear hcall hA hC hS hl hbr
  go_enter Try.func24, Try.ntmps24
  go_wp2_with (first | (go_at_call 61; refine (HC.out _ (((Below.refl _ _).alloc (Nat.le_refl _) _).alloc (by simp) _)).mono ?_; rintro e w1 ⟨rfl, hb1⟩))
  go_ret
  exact ⟨rfl, (((Below.refl _ _).alloc (Nat.le_refl _) _).alloc (by simp) _).trans (hb1.mono (by simp; omega))⟩
end Go.Proofs.Ytcpgkalafkhlgae.OpR
