/- A map of nodes by their numbers: what it holds is a list of pairs, and what is read of it and put to it. -/
import Derived.Test.YtmidembbanlleafDoorTrM
import Derived.Maps.OwnSet
import Derived.Maps.RangeWalk
namespace Go.Proofs.YtmidembbanlleafDoor.OpR
open Go.ChangeShapes Go.WideShapes Go.ChangeAt Go.RowKit
set_option linter.unusedVariables false

def NodG.zero : NodG := ⟨0, 0, ⟨#[]⟩, [], none, 0⟩
/-- An element of the map is held as it is. -/
def rdN (v : Value) : Option (DataW Value × List MemPlace) := some (.held v, [])
def kvD (m : List (Int × NodG)) : DataW Value := .map (m.map fun p => (Lit.int .i64 p.1, DataW.held p.2.agg))
def kvAt (m : List (Int × NodG)) (x : Int) : Option NodG := (m.find? fun p => decide (p.1 = x)).map Prod.snd
def kvIns (x : Int) (n : NodG) : List (Int × NodG) → List (Int × NodG)
  | [] => [(x, n)]
  | q :: r => if x < q.1 then (x, n) :: q :: r else q :: kvIns x n r
def kvDel (m : List (Int × NodG)) (x : Int) : List (Int × NodG) := m.filter fun p => !decide (p.1 = x)
def kvPut (m : List (Int × NodG)) (x : Int) (n : NodG) : List (Int × NodG) := kvIns x n (kvDel m x)
theorem same_int (a b : Int) : (Lit.int .i64 a).sameKey (Lit.int .i64 b) = decide (a = b) := by simp [Lit.sameKey]
theorem kvD_del (m : List (Int × NodG)) (x : Int) : (kvD m).del (.int .i64 x) = kvD (kvDel m x) := by
  unfold kvD kvDel DataW.del
  simp only [List.filter_map, DataW.map.injEq]
  congr 1
  refine List.filter_congr fun p _ => ?_
  simp [same_int]
theorem kvD_ins (x : Int) (n : NodG) : ∀ (m : List (Int × NodG)), DataW.insert (Lit.int .i64 x, DataW.held n.agg) (m.map fun p => (Lit.int .i64 p.1, DataW.held p.2.agg)) = (kvIns x n m).map fun p => (Lit.int .i64 p.1, DataW.held p.2.agg)
  | [] => rfl
  | q :: r => by
    simp only [List.map_cons, DataW.insert, kvIns, Lit.before, decide_eq_true_eq]
    by_cases h : x < q.1
    · rw [if_pos h, if_pos h]; rfl
    · rw [if_neg h, if_neg h, List.map_cons, kvD_ins x n r]
theorem kvD_put (m : List (Int × NodG)) (x : Int) (n : NodG) : (kvD m).put (.int .i64 x) (.held n.agg) = kvD (kvPut m x n) := by
  have h := kvD_del m x
  unfold kvD DataW.del at h
  unfold kvD kvPut DataW.put
  simp only [DataW.map.injEq] at h ⊢
  rw [h, kvD_ins]
theorem kvD_find (m : List (Int × NodG)) (x : Int) : (m.map fun p => (Lit.int .i64 p.1, DataW.held p.2.agg)).find? (fun p => p.1.sameKey (.int .i64 x)) = (m.find? fun p => decide (p.1 = x)).map fun p => (Lit.int .i64 p.1, DataW.held p.2.agg) := by
  induction m with
  | nil => rfl
  | cons q r ih =>
    rw [List.map_cons, List.find?_cons, List.find?_cons, same_int, ih]
    cases decide (q.1 = x) <;> rfl
theorem kvD_some {m : List (Int × NodG)} {x : Int} {n : NodG} (h : kvAt m x = some n) (z : DataW Value) : (kvD m).atKey (.int .i64 x) z = .held n.agg := by
  unfold kvAt at h
  unfold kvD DataW.atKey
  simp only [kvD_find]
  cases e : m.find? (fun p => decide (p.1 = x)) with
  | none => rw [e] at h; cases h
  | some p => rw [e] at h; cases h; rfl
theorem kvD_none {m : List (Int × NodG)} {x : Int} (h : kvAt m x = none) (z : DataW Value) : (kvD m).atKey (.int .i64 x) z = z := by
  unfold kvAt at h
  unfold kvD DataW.atKey
  simp only [kvD_find]
  cases e : m.find? (fun p => decide (p.1 = x)) with
  | none => rfl
  | some p => rw [e] at h; cases h
theorem kvD_has (m : List (Int × NodG)) (x : Int) : Maps.has (kvD m) (.int .i64 x) = (kvAt m x).isSome := by
  cases h : kvAt m x with
  | none => exact Maps.has_false_of_atKey (kvD_none h)
  | some n => exact Maps.has_true_of_atKey (kvD_some h)
theorem kvD_size (m : List (Int × NodG)) : Maps.size (kvD m) = m.length := by simp [Maps.size, kvD]

theorem lawK : Maps.Keyed Tryd.prog 2 := Maps.int_keyed Tryd.underlying2
theorem zeroN (w : World) : (zeroValue 53).run Tryd.prog w = .ok (.agg #[.int .i64 0, .int .i64 0, .string ⟨#[]⟩, .slice none 0 0]) w := by kernel_rfl
/-- The map in block B holds just these. -/
def MapAt (w : World) (B : Nat) (m : List (Int × NodG)) : Prop := w.ownsMap Tryd.prog 2 rdN B m.length (kvD m)
theorem MapAt.of {w : World} {B n : Nat} {m : List (Int × NodG)} (h : w.ownsMap Tryd.prog 2 rdN B n (kvD m)) : MapAt w B m := by
  obtain ⟨es, clock, hb, F, hs, hD⟩ := h
  refine ⟨es, clock, hb, F, ?_, hD⟩
  have := congrArg Maps.size hD
  rw [kvD_size] at this
  simp only [Maps.size, length_sorted, List.length_map, Array.length_toList] at this
  omega
theorem MapAt.lt {w : World} {B : Nat} {m : List (Int × NodG)} (h : MapAt w B m) : B < w.heap.size := World.ownsMap.lt h
theorem MapAt.block {w w' : World} {B : Nat} {m : List (Int × NodG)} (h : MapAt w B m) (e : w'.heap[B]? = w.heap[B]?) : MapAt w' B m := by
  obtain ⟨es, clock, hb, r⟩ := h
  exact ⟨es, clock, e.trans hb, r⟩
theorem MapAt.stays {w w' : World} {B : Nat} {m : List (Int × NodG)} (h : MapAt w B m) (hb : Below w.heap.size w w') : MapAt w' B m := h.block (hb.block B h.lt)
theorem MapAt.below {w w' : World} {B C : Nat} {m : List (Int × NodG)} (h : MapAt w B m) (hb : Below C w w') (hB : B < C) : MapAt w' B m := h.block (hb.block B hB)
theorem MapAt.made (w : World) : MapAt (w.alloc (.map #[] 0)) w.heap.size [] := World.ownsMap_made w _ _ _
theorem key_i64 {x : Int} (h : -9223372036854775808 ≤ x ∧ x ≤ 9223372036854775807) : keyOf Tryd.prog 2 (.int .i64 x) = some (.int .i64 x) :=
  Maps.keyOf_int_mk Tryd.underlying2 (by simp [Lit.wf, IntKind.min, IntKind.max, IntKind.signed, IntKind.bits]; omega)

section
variable (w : World) {ops : Array Oper} {rest : List Oper} {o : Oper} {a : Act} {Q : Exit → Act → World → Prop}
/-- 'n, there := nodes[x]', where there is one. -/
theorem wpList_look_some (hg : o.guard = none) (m x : Operand) (hop : o.op = Op.lookup 42 m x true) (B : Nat) (l : List (Int × NodG)) (hm : a.eval m = .map (some B)) (hM : MapAt w B l)
    (key : Int) (hk : -9223372036854775808 ≤ key ∧ key ≤ 9223372036854775807) (hx : a.eval x = .int .i64 key) (n : NodG) (hn : kvAt l key = some n)
    (hK : wpList Tryd.prog ops Q rest (a.put o.dst (.tuple #[.agg #[.int .i64 n.id, .int .i64 n.parent, .string n.name, .slice n.pao n.props.length n.pcap], .bool true])) w) :
    wpList Tryd.prog ops Q (o :: rest) a w :=
  wpList_lookup_own_ok w hg m x 42 hop 2 53 lawK Tryd.underlying42 rdN (zeroN w) _ [] rfl B l.length (kvD l) hm hM _ _ hx (key_i64 hk) (fun v ps hv => by
    rw [kvD_some hn] at hv
    simp only [rdN, Option.some.injEq, Prod.mk.injEq, DataW.held.injEq] at hv
    obtain ⟨rfl, _⟩ := hv
    rw [kvD_has, hn]
    exact hK)
/-- .. and where there is none. -/
theorem wpList_look_none (hg : o.guard = none) (m x : Operand) (hop : o.op = Op.lookup 42 m x true) (B : Nat) (l : List (Int × NodG)) (hm : a.eval m = .map (some B)) (hM : MapAt w B l)
    (key : Int) (hk : -9223372036854775808 ≤ key ∧ key ≤ 9223372036854775807) (hx : a.eval x = .int .i64 key) (hn : kvAt l key = none)
    (hK : wpList Tryd.prog ops Q rest (a.put o.dst (.tuple #[.agg #[.int .i64 0, .int .i64 0, .string ⟨#[]⟩, .slice none 0 0], .bool false])) w) :
    wpList Tryd.prog ops Q (o :: rest) a w :=
  wpList_lookup_own_ok w hg m x 42 hop 2 53 lawK Tryd.underlying42 rdN (zeroN w) _ [] rfl B l.length (kvD l) hm hM _ _ hx (key_i64 hk) (fun v ps hv => by
    rw [kvD_none hn] at hv
    simp only [rdN, Option.some.injEq, Prod.mk.injEq, DataW.held.injEq] at hv
    obtain ⟨rfl, _⟩ := hv
    rw [kvD_has, hn]
    exact hK)
/-- 'nodes[x] = n'. -/
theorem wpList_put_node (hg : o.guard = none) (m x v : Operand) (hop : o.op = Op.mapUpdate 42 m x v) (B : Nat) (l : List (Int × NodG)) (hm : a.eval m = .map (some B)) (hM : MapAt w B l) (hl : l.length < maxLen)
    (key : Int) (hk : -9223372036854775808 ≤ key ∧ key ≤ 9223372036854775807) (hx : a.eval x = .int .i64 key) (n : NodG) (hv : a.eval v = .agg #[.int .i64 n.id, .int .i64 n.parent, .string n.name, .slice n.pao n.props.length n.pcap])
    (hK : ∀ w', MapAt w' B (kvPut l key n) → w.mapTurned w' B → wpList Tryd.prog ops Q rest (a.put o.dst undef) w') :
    wpList Tryd.prog ops Q (o :: rest) a w :=
  wpList_mapUpdate_in w hg m x v 42 hop 2 53 lawK Tryd.underlying42 rdN B l.length (kvD l) hm hM hl _ _ _ hx hv (key_i64 hk) (.held n.agg) [] rfl (fun w' h1 h2 => by
    rw [kvD_put] at h1
    exact hK w' (MapAt.of h1) h2)
/-- 'delete(nodes, x)'. -/
theorem wpList_del_node (hg : o.guard = none) (m x : Operand) (hop : o.op = Op.call { callee := Callee.builtin Builtin.delete, args := #[m, x], argTypes := #[42, 2] }) (B : Nat) (l : List (Int × NodG)) (hm : a.eval m = .map (some B)) (hM : MapAt w B l)
    (key : Int) (hk : -9223372036854775808 ≤ key ∧ key ≤ 9223372036854775807) (hx : a.eval x = .int .i64 key)
    (hK : ∀ w', MapAt w' B (kvDel l key) → w.mapTurned w' B → wpList Tryd.prog ops Q rest (a.put o.dst (.tuple #[])) w') :
    wpList Tryd.prog ops Q (o :: rest) a w :=
  wpList_delete_own w hg m x 42 2 hop 53 lawK Tryd.underlying42 rdN B l.length (kvD l) hm hM _ _ hx (key_i64 hk) (fun w' h1 h2 => by
    rw [kvD_del] at h1
    exact hK w' (MapAt.of h1) h2)
/-- 'len(nodes)'. -/
theorem wpList_len_nodes (hg : o.guard = none) (m : Operand) (hop : o.op = Op.call { callee := Callee.builtin Builtin.len, args := #[m], argTypes := #[42] }) (B : Nat) (l : List (Int × NodG)) (hm : a.eval m = .map (some B)) (hM : MapAt w B l)
    (hK : wpList Tryd.prog ops Q rest (a.put o.dst (.int .i64 (l.length : Int))) w) :
    wpList Tryd.prog ops Q (o :: rest) a w :=
  wpList_len_own w hg m 42 hop 2 53 Tryd.underlying42 rdN B l.length (kvD l) hm hM (by rw [kvD_size]; exact hK)
end
end Go.Proofs.YtmidembbanlleafDoor.OpR
