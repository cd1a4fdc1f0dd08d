/- Nodes with their props as Lean values, and how they lie in memory: a prop has two cells, a node four. Proves what the harness does with trees: how much is in them, copies of them, comparisons. Rows of structs of whatever number of cells: what lies in them, and what stores make of them. Proves what the harness does with trees: copies of them, comparisons. Proves what spec's tests of trees tell. A region that draws its order and whose operations leave the world in a class of worlds: one walk in the order of the text serves every order. Proves what impl's tests of rows of nodes and props tell. Proves what impl.merged makes of two rows of props: one row, in memory of its own. Proves what impl.merged makes of two rows of nodes: one row, in memory of its own. A row that the call owns: behind calls, and with one cell stored. Proves what impl.ownProps and impl.ownNodes make: the same props and nodes, in new memory down to the texts. Keys in order, and a prop set among props. Plain mathematics. A map of nodes by their numbers: what it holds is a list of pairs, and what is read of it and put to it. Proves what impl makes of a map of nodes: the map itself, what is above, what holds. Ways up, parent by parent: how long they are, and what becomes of them when one node is put elsewhere. Plain mathematics. Proves what spec tells of trees: ways up, TreeRight, Above. Proves what impl's holds, TreeRight and Above tell. Proves what impl.withProp makes of props and one prop more: a new list with it set. -/
import Derived.Test.YtfkgmkcndchkjaaGreatDoorOpX
import Derived.Deep.QuietTactic
import Derived.BigQuiet
import Derived.Test.YtfkgmkcndchkjaaGreatDoorIOp
import Derived.Test.YtfkgmkcndchkjaaGreatDoorRowO
import Derived.Test.YtfkgmkcndchkjaaGreatDoorClone
import Derived.Maps.OwnSet
import Derived.Maps.RangeWalk
namespace Go.Proofs.YtfkgmkcndchkjaaGreatDoor.OpR
open Go.ChangeShapes Go.WideShapes Go.ChangeAt Go.RowKit
set_option linter.unusedVariables false

structure PropV where
  key : ByteArray
  value : ByteArray
/-- A node: what it is, and where the slice of its props lies. -/
structure NodG where
  id : Int
  parent : Int
  name : ByteArray
  props : List PropV
  pao : Option Addr
  pcap : Nat
def PropV.agg (p : PropV) : Value := .agg #[.string p.key, .string p.value]
def PropV.cells (p : PropV) : List Value := [.string p.key, .string p.value]
def NodG.agg (n : NodG) : Value := .agg #[.int .i64 n.id, .int .i64 n.parent, .string n.name, .slice n.pao n.props.length n.pcap]
def NodG.cells (n : NodG) : List Value := [.int .i64 n.id, .int .i64 n.parent, .string n.name, .slice n.pao n.props.length n.pcap]
def PropAt (w : World) (b p : Nat) (x : PropV) : Prop := w.cell? ⟨b, p, none⟩ = some (.string x.key) ∧ w.cell? ⟨b, p + 1, none⟩ = some (.string x.value)
/-- The props of a slice. -/
def PropsAt (w : World) (ao : Option Addr) (l : List PropV) : Prop := ∀ j (hj : j < l.length), ∃ b off, ao = some ⟨b, off, none⟩ ∧ b < w.heap.size ∧ PropAt w b (off + j * 2) l[j]
def NodAt (w : World) (b p : Nat) (n : NodG) : Prop :=
  w.cell? ⟨b, p, none⟩ = some (.int .i64 n.id) ∧ w.cell? ⟨b, p + 1, none⟩ = some (.int .i64 n.parent) ∧ w.cell? ⟨b, p + 2, none⟩ = some (.string n.name) ∧ w.cell? ⟨b, p + 3, none⟩ = some (.slice n.pao n.props.length n.pcap)
/-- The nodes of a slice, with their props. -/
def NodesAt (w : World) (ao : Option Addr) (l : List NodG) : Prop := ∀ j (hj : j < l.length), ∃ b off, ao = some ⟨b, off, none⟩ ∧ b < w.heap.size ∧ NodAt w b (off + j * 4) l[j] ∧ PropsAt w l[j].pao l[j].props
theorem PropAt.block {w w' : World} {b p : Nat} {x : PropV} (h : PropAt w b p x) (e : w'.heap[b]? = w.heap[b]?) : PropAt w' b p x := by
  unfold PropAt at *
  simpa only [World.cell?, e] using h
theorem NodAt.block {w w' : World} {b p : Nat} {x : NodG} (h : NodAt w b p x) (e : w'.heap[b]? = w.heap[b]?) : NodAt w' b p x := by
  unfold NodAt at *
  simpa only [World.cell?, e] using h
theorem PropsAt.stays {w w' : World} {ao : Option Addr} {l : List PropV} (h : PropsAt w ao l) (hb : Below w.heap.size w w') : PropsAt w' ao l := fun j hj => by
  obtain ⟨b, off, e, hlt, ho⟩ := h j hj
  exact ⟨b, off, e, Nat.lt_of_lt_of_le hlt hb.size, ho.block (hb.block b hlt)⟩
theorem PropsAt.below {B : Nat} {w w' : World} {ao : Option Addr} {l : List PropV} (h : PropsAt w ao l) (hb : Below B w w') (hB : ∀ a, ao = some a → a.block < B) : PropsAt w' ao l := fun j hj => by
  obtain ⟨b, off, e, hlt, ho⟩ := h j hj
  exact ⟨b, off, e, Nat.lt_of_lt_of_le hlt hb.size, ho.block (hb.block b (hB _ e))⟩
theorem PropsAt.grown {w w' : World} {row : Option Nat} {ao : Option Addr} {l : List PropV} (h : PropsAt w ao l) (hg : w.grownBy w' row) (hr : ∀ a, ao = some a → some a.block ≠ row) : PropsAt w' ao l := fun j hj => by
  obtain ⟨b, off, e, hlt, ho⟩ := h j hj
  exact ⟨b, off, e, Nat.lt_of_lt_of_le hlt hg.size, ho.block (hg.block b hlt (hr _ e))⟩
theorem NodesAt.stays {w w' : World} {ao : Option Addr} {l : List NodG} (h : NodesAt w ao l) (hb : Below w.heap.size w w') : NodesAt w' ao l := fun j hj => by
  obtain ⟨b, off, e, hlt, ho, hp⟩ := h j hj
  exact ⟨b, off, e, Nat.lt_of_lt_of_le hlt hb.size, ho.block (hb.block b hlt), hp.stays hb⟩
theorem NodesAt.props {w : World} {ao : Option Addr} {l : List NodG} (h : NodesAt w ao l) : ∀ n ∈ l, PropsAt w n.pao n.props := fun n hn => by
  obtain ⟨j, hj, rfl⟩ := List.getElem_of_mem hn
  obtain ⟨_, _, _, _, _, hp⟩ := h j hj
  exact hp
/-- How long the texts of a node are. -/
def SizedN (m : Nat) (l : List NodG) : Prop := ∀ n ∈ l, n.name.size ≤ m ∧ n.props.length ≤ m ∧ ∀ p ∈ n.props, p.key.size ≤ m ∧ p.value.size ≤ m

/-! ### what is right -/
def keyLt (a b : ByteArray) : Bool := Op.bytesLess a.toList b.toList
/-- What is asked of the i-th prop: its key, its value, and that the one ahead of it is less. -/
def propOk (p : PropV) : Bool := NameR.nmB p.key && decide ((p.value.size : Int) ≤ 40)
def propRise (l : List PropV) (i : Nat) : Bool := if h : i + 1 < l.length then keyLt l[i].key l[i + 1].key else true
def propsOk (l : List PropV) : Bool := decide (l.length ≤ 20) && (l.all propOk && allTo l.length (propRise l))
def PropsOk (l : List PropV) : Prop := l.length ≤ 20 ∧ (∀ p ∈ l, propOk p = true) ∧ ∀ i (h : i + 1 < l.length), keyLt l[i].key l[i + 1].key = true
theorem propRise_iff (l : List PropV) : allTo l.length (propRise l) = true ↔ ∀ i (h : i + 1 < l.length), keyLt l[i].key l[i + 1].key = true := by
  rw [allTo_iff]
  constructor
  · intro h i hi
    have h1 := h i (by omega)
    unfold propRise at h1
    rwa [dif_pos hi] at h1
  · intro h i hi
    unfold propRise
    by_cases h1 : i + 1 < l.length
    · rw [dif_pos h1]; exact h i h1
    · rw [dif_neg h1]
theorem propsOk_iff (l : List PropV) : propsOk l = true ↔ PropsOk l := by
  unfold propsOk PropsOk
  rw [Bool.and_eq_true, Bool.and_eq_true, decide_eq_true_iff, List.all_eq_true, propRise_iff]
theorem propsOk_yes {l : List PropV} (h : PropsOk l) : propsOk l = true := (propsOk_iff l).2 h
theorem propsOk_no {l : List PropV} (h : ¬ PropsOk l) : propsOk l = false := bool_no (propsOk_iff l) h
/-- The first node of a number. -/
def nodOf (l : List NodG) (x : Int) : Option NodG := l.find? fun n => decide (n.id = x)
/-- The parent of a number's node. -/
def par (l : List NodG) (x : Int) : Option Int := (nodOf l x).map NodG.parent
/-- From a number on, parent by parent, within so many steps: is 0 or 1 come to? -/
def endsF (f : Int → Option Int) : Nat → Int → Bool
  | 0, _ => false
  | k + 1, x => if x = 0 ∨ x = 1 then true else match f x with
    | none => false
    | some y => endsF f k y
/-- .. is another number come to? -/
def abF (f : Int → Option Int) (y : Int) : Nat → Int → Bool
  | 0, _ => false
  | k + 1, x => if x = y then true else match f x with
    | none => false
    | some z => abF f y k z
def nodOk (l : List NodG) (n : NodG) : Bool := isIn n.id 2 1000000 && (NameR.nmB n.name && (propsOk n.props && endsF (par l) (l.length + 1) n.id))
def RisesN (l : List NodG) : Prop := ∀ i (h : i + 1 < l.length), l[i].id < l[i + 1].id
def nodRise (l : List NodG) (i : Nat) : Bool := if h : i + 1 < l.length then decide (l[i].id < l[i + 1].id) else true
def risesN (l : List NodG) : Bool := allTo l.length (nodRise l)
theorem risesN_iff (l : List NodG) : risesN l = true ↔ RisesN l := by
  unfold risesN RisesN
  rw [allTo_iff]
  constructor
  · intro h i hi
    have h1 := h i (by omega)
    unfold nodRise at h1
    rw [dif_pos hi] at h1
    simpa using h1
  · intro h i hi
    unfold nodRise
    by_cases h1 : i + 1 < l.length
    · rw [dif_pos h1]; simpa using h i h1
    · rw [dif_neg h1]
theorem risesN_yes {l : List NodG} (h : RisesN l) : risesN l = true := (risesN_iff l).2 h
theorem risesN_no {l : List NodG} (h : ¬ RisesN l) : risesN l = false := bool_no (risesN_iff l) h
def TreeR (l : List NodG) : Prop := l.length ≤ 150 ∧ RisesN l ∧ ∀ n ∈ l, nodOk l n = true
def treeRight (l : List NodG) : Bool := decide (l.length ≤ 150) && (risesN l && l.all (nodOk l))
theorem treeR_iff (l : List NodG) : treeRight l = true ↔ TreeR l := by
  unfold treeRight TreeR
  rw [Bool.and_eq_true, Bool.and_eq_true, decide_eq_true_iff, risesN_iff, List.all_eq_true]
theorem tree_yes {l : List NodG} (h : TreeR l) : treeRight l = true := (treeR_iff l).2 h
theorem tree_no {l : List NodG} (h : ¬ TreeR l) : treeRight l = false := bool_no (treeR_iff l) h

/-! ### by what impl asks -/
theorem rises_lt {l : List NodG} (h : RisesN l) : ∀ i j (hi : i < j) (hj : j < l.length), l[i].id < l[j].id := by
  intro i j hi
  induction hi with
  | refl => intro hj; exact h i hj
  | step hm ih => intro hj; exact Int.lt_trans (ih (by omega)) (h _ hj)
theorem nodOf_some {l : List NodG} {x : Int} {n : NodG} (h : nodOf l x = some n) : n ∈ l ∧ n.id = x := by
  unfold nodOf at h
  exact ⟨List.mem_of_find?_eq_some h, by simpa using List.find?_some h⟩
theorem nodOf_none {l : List NodG} {x : Int} (h : nodOf l x = none) : ∀ n ∈ l, n.id ≠ x := by
  unfold nodOf at h
  simpa using h
theorem nodOf_mem {l : List NodG} (hr : RisesN l) {n : NodG} (h : n ∈ l) : nodOf l n.id = some n := by
  cases e : nodOf l n.id with
  | none => exact absurd rfl (nodOf_none e n h)
  | some m =>
    obtain ⟨hm, hid⟩ := nodOf_some e
    obtain ⟨i, hi, rfl⟩ := List.getElem_of_mem h
    obtain ⟨j, hj, rfl⟩ := List.getElem_of_mem hm
    rcases Nat.lt_trichotomy i j with h' | h' | h'
    · have := rises_lt hr i j h' hj; omega
    · subst h'; rfl
    · have := rises_lt hr j i h' hi; omega
/-- Where no node has the numbers 0 and 1, the way up ends well just if it comes to one of them. -/
theorem ends_ab {f : Int → Option Int} (h0 : f 0 = none) (h1 : f 1 = none) : ∀ k x, endsF f k x = (abF f 0 k x || abF f 1 k x)
  | 0, _ => rfl
  | k + 1, x => by
    unfold endsF abF
    by_cases e0 : x = 0
    · simp [e0]
    · by_cases e1 : x = 1
      · subst e1; simp [h1]
      · rw [if_neg (by omega), if_neg e0, if_neg e1]
        cases f x with
        | none => rfl
        | some n => exact ends_ab h0 h1 k n
theorem no_low {l : List NodG} (h : ∀ n ∈ l, isIn n.id 2 1000000 = true) {x : Int} (hx : x < 2) : nodOf l x = none := by
  cases e : nodOf l x with
  | none => rfl
  | some n =>
    obtain ⟨hm, hid⟩ := nodOf_some e
    have := h n hm
    simp [isIn] at this
    omega
/-- What impl asks of each node. -/
def nodOkI (l : List NodG) (n : NodG) : Bool := isIn n.id 2 1000000 && (NameR.nmB n.name && (propsOk n.props && (abF (par l) 0 (l.length + 1) n.id || abF (par l) 1 (l.length + 1) n.id)))
theorem all_okI (l : List NodG) : l.all (nodOkI l) = l.all (nodOk l) := by
  by_cases h : ∀ n ∈ l, isIn n.id 2 1000000 = true
  · have e := ends_ab (f := par l) (by unfold par; rw [no_low h (x := 0) (by omega)]; rfl) (by unfold par; rw [no_low h (x := 1) (by omega)]; rfl)
    congr 1
    funext n
    unfold nodOkI nodOk
    rw [e]
  · have hno : ∀ f : NodG → Bool, (∀ n, f n = true → isIn n.id 2 1000000 = true) → l.all f = false := fun f hf => by
      refine Bool.eq_false_iff.2 fun ha => h fun n hn => hf n (List.all_eq_true.1 ha n hn)
    rw [hno, hno]
    · intro n hn; unfold nodOk at hn; rw [Bool.and_eq_true] at hn; exact hn.1
    · intro n hn; unfold nodOkI at hn; rw [Bool.and_eq_true] at hn; exact hn.1
end Go.Proofs.YtfkgmkcndchkjaaGreatDoor.OpR
namespace Go.Proofs.YtfkgmkcndchkjaaGreatDoor.OpR
open Go.ChangeShapes Go.WideShapes Go.ChangeAt Go.RowKit
set_option linter.unusedVariables false

def SizedP (m : Nat) (l : List PropV) : Prop := ∀ p ∈ l, p.key.size ≤ m ∧ p.value.size ≤ m
/-- How long the texts of one node are. -/
def Sized1 (m : Nat) (n : NodG) : Prop := n.name.size ≤ m ∧ n.props.length ≤ m ∧ SizedP m n.props
end Go.Proofs.YtfkgmkcndchkjaaGreatDoor.OpR
namespace Go.Proofs.YtfkgmkcndchkjaaGreatDoor.OpR
open Go.ChangeShapes Go.WideShapes Go.ChangeAt Go.RowKit
set_option linter.unusedVariables false

section
variable {α : Type} {cs : α → List Value} {c : Nat}
def flatG (cs : α → List Value) (l : List α) : List Value := l.flatMap cs
theorem flatG_cons (x : α) (l : List α) : flatG cs (x :: l) = cs x ++ flatG cs l := by simp [flatG]
theorem flatG_app (a b : List α) : flatG cs (a ++ b) = flatG cs a ++ flatG cs b := by simp [flatG]
theorem flatG_len (hc : ∀ x, (cs x).length = c) (l : List α) : (flatG cs l).length = l.length * c := by
  induction l with
  | nil => simp [flatG]
  | cons o l ih => rw [flatG_cons, List.length_append, ih, hc, List.length_cons, Nat.succ_mul]; omega
theorem flatG_get (hc : ∀ x, (cs x).length = c) : ∀ (l : List α) (k f : Nat) (hk : k < l.length), f < c → (flatG cs l)[k * c + f]? = (cs l[k])[f]?
  | o :: l, 0, f, hk, hf => by
    rw [flatG_cons, Nat.zero_mul, Nat.zero_add, List.getElem?_append_left (by rw [hc]; exact hf)]; rfl
  | o :: l, k + 1, f, hk, hf => by
    rw [flatG_cons, List.getElem?_append_right (by rw [hc, Nat.succ_mul]; omega), hc, show (k + 1) * c + f - c = k * c + f by rw [Nat.succ_mul]; omega]
    exact flatG_get hc l k f (by simpa using hk) hf
theorem flatG_up (hc : ∀ x, (cs x).length = c) (x : α) (l : List α) (k f : Nat) (v : Value) : (cs x ++ l.flatMap cs).set ((k + 1) * c + f) v = cs x ++ (l.flatMap cs).set (k * c + f) v := by
  rw [List.set_append_right _ _ (by rw [hc, Nat.succ_mul]; omega), hc, show (k + 1) * c + f - c = k * c + f by rw [Nat.succ_mul]; omega]
theorem flatG_up' (hc : ∀ x, (cs x).length = c) (x : α) (r : List Value) (k f : Nat) (v : Value) : (cs x ++ r).set ((k + 1) * c + f) v = cs x ++ r.set (k * c + f) v := by
  rw [List.set_append_right _ _ (by rw [hc, Nat.succ_mul]; omega), hc, show (k + 1) * c + f - c = k * c + f by rw [Nat.succ_mul]; omega]
/-- The stores of an element's cells are the store of the element. -/
def setsG (r : List Value) (p : Nat) : List Value → List Value
  | [] => r
  | v :: vs => setsG (r.set p v) (p + 1) vs
theorem setsG_up (hc : ∀ x, (cs x).length = c) (x : α) (k : Nat) : ∀ (vs : List Value) (r : List Value) (f : Nat), setsG (cs x ++ r) ((k + 1) * c + f) vs = cs x ++ setsG r (k * c + f) vs
  | [], _, _ => rfl
  | v :: vs, r, f => by
    unfold setsG
    rw [flatG_up' hc, Nat.add_assoc, Nat.add_assoc, setsG_up hc x k vs]
theorem setsG_front : ∀ (vs us r : List Value) (pre : List Value), vs.length = us.length → setsG (pre ++ us ++ r) pre.length vs = pre ++ vs ++ r
  | [], [], r, pre, _ => rfl
  | v :: vs, u :: us, r, pre, h => by
    unfold setsG
    have e : (pre ++ u :: us ++ r).set pre.length v = (pre ++ [v]) ++ us ++ r := by
      rw [List.append_assoc, List.set_append_right _ _ (Nat.le_refl _), Nat.sub_self]
      simp
    rw [e]
    have := setsG_front vs us r (pre ++ [v]) (by simpa using h)
    rw [List.length_append] at this
    simpa using this
theorem flatG_set (hc : ∀ x, (cs x).length = c) : ∀ (l : List α) (k : Nat) (o : α), k < l.length → setsG (flatG cs l) (k * c) (cs o) = flatG cs (l.set k o)
  | x :: l, 0, o, hk => by
    rw [flatG_cons, List.set_cons_zero, flatG_cons, Nat.zero_mul]
    simpa using setsG_front (cs o) (cs x) (flatG cs l) [] (by rw [hc, hc])
  | x :: l, k + 1, o, hk => by
    rw [flatG_cons, List.set_cons_succ, flatG_cons, ← flatG_set hc l k o (by simpa using hk)]
    simpa using setsG_up hc x k (cs o) (flatG cs l) 0
/-- A block that holds just these, none frozen. -/
def InG (cs : α → List Value) (w : World) (g : Nat) (T : TypeId) (l : List α) : Prop := w.heap[g]? = some (.cells (flatG cs l).toArray T (0, 0))
variable {w w' : World} {g : Nat} {T : TypeId} {l : List α}
theorem InG.lt (h : InG cs w g T l) : g < w.heap.size := (Array.getElem?_eq_some_iff.1 h).1
theorem InG.cell (hc : ∀ x, (cs x).length = c) (h : InG cs w g T l) {k f : Nat} (hk : k < l.length) (hf : f < c) {v : Value} (hv : (cs l[k])[f]? = some v) : w.cell? ⟨g, k * c + f, none⟩ = some v := by
  have e := flatG_get hc l k f hk hf
  rw [hv] at e
  unfold InG at h
  simp [World.cell?, h, e]
theorem InG.frozen (h : InG cs w g T l) (p : Nat) : w.frozen? ⟨g, p, none⟩ = false := by
  unfold InG at h
  simp [World.frozen?, h]
theorem InG.block (h : InG cs w g T l) (e : w'.heap[g]? = w.heap[g]?) : InG cs w' g T l := e.trans h
theorem InG.stays (h : InG cs w g T l) (hb : Below w.heap.size w w') : InG cs w' g T l := h.block (hb.block g h.lt)
/-- It is a row that the call owns. -/
theorem InG.owns (hc : ∀ x, (cs x).length = c) (h : InG cs w g T l) {base : Nat} (hb : base ≤ g) (hm : l.length ≤ maxLen) : w.ownsRow base T c (.slice (some ⟨g, 0, none⟩) l.length l.length) l.length (flatG cs l) :=
  ⟨flatG_len hc l, .inr ⟨g, l.length, _, rfl, hb, h, Nat.le_refl _, hm, by simp [flatG_len hc], by rw [← flatG_len hc l]; simp⟩⟩
end
/-- A store into a block of cells. -/
def putsG (w : World) (g p : Nat) : List Value → World
  | [] => w
  | v :: vs => putsG (w.setCell ⟨g, p, none⟩ v) g (p + 1) vs
theorem puts_block {w : World} {g : Nat} {T : TypeId} : ∀ (vs : List Value) (r : List Value) (p : Nat) (w : World), w.heap[g]? = some (.cells r.toArray T (0, 0)) → (putsG w g p vs).heap[g]? = some (.cells (setsG r p vs).toArray T (0, 0))
  | [], _, _, _, h => h
  | v :: vs, r, p, w, h => by
    unfold putsG setsG
    refine puts_block (w := w) vs _ _ _ ?_
    have := set_block h p v
    rwa [List.setIfInBounds_toArray] at this
theorem puts_other {g b : Nat} (hne : b ≠ g) : ∀ (vs : List Value) (p : Nat) (w : World), (putsG w g p vs).heap[b]? = w.heap[b]?
  | [], _, _ => rfl
  | v :: vs, p, w => by
    unfold putsG
    rw [puts_other hne vs]
    exact Below.heap_setCell _ _ _ _ hne
theorem puts_below {B g : Nat} {a : World} (hg : B ≤ g) : ∀ (vs : List Value) (p : Nat) (w : World), Below B a w → Below B a (putsG w g p vs)
  | [], _, _, h => h
  | v :: vs, p, w, h => puts_below hg vs (p + 1) _ (h.setCell hg v)
theorem InG.store {α : Type} {cs : α → List Value} {c : Nat} {w : World} {g : Nat} {T : TypeId} {l : List α} (hc : ∀ x, (cs x).length = c) (h : InG cs w g T l) {k : Nat} (hk : k < l.length) (o : α) : InG cs (putsG w g (k * c) (cs o)) g T (l.set k o) := by
  have := puts_block (w := w) (cs o) _ (k * c) w h
  rw [flatG_set hc l k o hk] at this
  exact this

/-! ### props: two cells; nodes: four -/
theorem prop_len (p : PropV) : p.cells.length = 2 := rfl
theorem nod_len (n : NodG) : n.cells.length = 4 := rfl
def PropV.zero : PropV := ⟨⟨#[]⟩, ⟨#[]⟩⟩
def NodG.none0 : NodG := ⟨0, 0, ⟨#[]⟩, [], none, 0⟩
theorem made_cells {α : Type} {cs : α → List Value} {c : Nat} (hc : ∀ x, (cs x).length = c) (h0 : 0 < c) (z : α) (n : Nat) : madeCells (cs z).toArray (n * c) = (flatG cs (List.replicate n z)).toArray := by
  apply Array.ext_getElem?
  intro p
  by_cases hp : p < n * c
  · obtain ⟨k, f, rfl, hf⟩ : ∃ k f, p = k * c + f ∧ f < c := ⟨p / c, p % c, by rw [Nat.mul_comm]; exact (Nat.div_add_mod p c).symm, Nat.mod_lt _ h0⟩
    have hk : k < n := by
      refine Classical.byContradiction fun hn => ?_
      have : n * c ≤ k * c := Nat.mul_le_mul_right c (Nat.le_of_not_lt hn)
      omega
    have er : (flatG cs (List.replicate n z)).toArray[k * c + f]? = (cs z)[f]? := by
      rw [List.getElem?_toArray, flatG_get hc _ k f (by simpa using hk) hf, List.getElem_replicate]
    rw [er]
    simp only [madeCells, Array.getElem?_map]
    rw [Array.getElem?_eq_getElem (by simpa using hp)]
    simp only [Option.map_some, Array.getElem_range]
    have e : (k * c + f) % (cs z).toArray.size = f := by
      rw [List.size_toArray, hc, Nat.mul_comm, Nat.mul_add_mod]
      exact Nat.mod_eq_of_lt hf
    rw [e, List.getElem?_eq_getElem (by rw [hc]; exact hf)]
    congr 1
    rw [getElem!_pos _ _ (by simpa [hc] using hf)]
    simp
  · rw [Array.getElem?_eq_none (by rw [size_madeCells]; omega), Array.getElem?_eq_none (by simp [flatG_len hc]; omega)]
theorem infoProp : (Tryz.prog.info? 165).map (fun i => (i.zero, i.size, i.bytes)) = some (some (.agg #[.string ⟨#[]⟩, .string ⟨#[]⟩]), 2, 32) := by kernel_rfl
theorem infoNode : (Tryz.prog.info? 120).map (fun i => (i.zero, i.size, i.bytes)) = some (some (.agg #[.int .i64 0, .int .i64 0, .string ⟨#[]⟩, .slice none 0 0]), 4, 56) := by kernel_rfl
theorem make_props (n : Nat) (hn : n ≤ 1048576) (w : World) : (Instr.makeSlice 118 (.int .i64 (n : Int)) (.int .i64 (n : Int))).run Tryz.prog w = .ok (.slice (some ⟨w.heap.size, 0, none⟩) n n) (w.alloc (.cells (flatG PropV.cells (List.replicate n PropV.zero)).toArray 165)) := by
  obtain ⟨i, hi, hz⟩ := Option.map_eq_some_iff.1 infoProp
  simp only [Prod.mk.injEq] at hz
  obtain ⟨hz, hs, hb⟩ := hz
  have h := run_make (P := Tryz.prog) w 118 165 i _ Tryz.underlying118 hi hz .i64 .i64 n n (by omega) (by omega) (by rw [hb]; omega) (by omega)
  simp only [Int.toNat_natCast, hs] at h
  rw [← made_cells prop_len (by omega) PropV.zero n]
  exact h
theorem make_nodes (n : Nat) (hn : n ≤ 1048576) (w : World) : (Instr.makeSlice 70 (.int .i64 (n : Int)) (.int .i64 (n : Int))).run Tryz.prog w = .ok (.slice (some ⟨w.heap.size, 0, none⟩) n n) (w.alloc (.cells (flatG NodG.cells (List.replicate n NodG.none0)).toArray 120)) := by
  obtain ⟨i, hi, hz⟩ := Option.map_eq_some_iff.1 infoNode
  simp only [Prod.mk.injEq] at hz
  obtain ⟨hz, hs, hb⟩ := hz
  have h := run_make (P := Tryz.prog) w 70 120 i _ Tryz.underlying70 hi hz .i64 .i64 n n (by omega) (by omega) (by rw [hb]; omega) (by omega)
  simp only [Int.toNat_natCast, hs] at h
  rw [← made_cells nod_len (by omega) NodG.none0 n]
  exact h
theorem InG.propAt {w : World} {g : Nat} {T : TypeId} {l : List PropV} (h : InG PropV.cells w g T l) {k : Nat} (hk : k < l.length) : PropAt w g (k * 2) l[k] :=
  ⟨h.cell prop_len hk (f := 0) (by omega) rfl, h.cell prop_len hk (f := 1) (by omega) rfl⟩
theorem InG.nodAt {w : World} {g : Nat} {T : TypeId} {l : List NodG} (h : InG NodG.cells w g T l) {k : Nat} (hk : k < l.length) : NodAt w g (k * 4) l[k] :=
  ⟨h.cell nod_len hk (f := 0) (by omega) rfl, h.cell nod_len hk (f := 1) (by omega) rfl, h.cell nod_len hk (f := 2) (by omega) rfl, h.cell nod_len hk (f := 3) (by omega) rfl⟩
theorem InG.propsAt {w : World} {g : Nat} {T : TypeId} {l : List PropV} (h : InG PropV.cells w g T l) : PropsAt w (some ⟨g, 0, none⟩) l := fun j hj =>
  ⟨g, 0, rfl, h.lt, by rw [Nat.zero_add]; exact h.propAt hj⟩
/-- The first k of l, the rest z. -/
def partG {α : Type} (z : α) (l : List α) (n : Nat) : List α := l ++ List.replicate (n - l.length) z
theorem partG_len {α : Type} (z : α) (l : List α) (n : Nat) (h : l.length ≤ n) : (partG z l n).length = n := by simp [partG]; omega
theorem partG_set {α : Type} (z : α) (l : List α) (n : Nat) (x : α) (h : l.length < n) : (partG z l n).set l.length x = partG z (l ++ [x]) n := by
  unfold partG
  rw [List.set_append_right _ _ (Nat.le_refl _), Nat.sub_self, show n - l.length = (n - (l ++ [x]).length) + 1 by simp; omega, List.replicate_succ, List.set_cons_zero]
  simp
theorem partG_all {α : Type} (z : α) (l : List α) : partG z l l.length = l := by simp [partG]
theorem partG_nil {α : Type} (z : α) (n : Nat) : partG z [] n = List.replicate n z := by simp [partG]
end Go.Proofs.YtfkgmkcndchkjaaGreatDoor.OpR
namespace Go.Proofs.YtfkgmkcndchkjaaGreatDoor.OpR
open Go.ChangeShapes Go.WideShapes Go.ChangeAt Go.RowKit
set_option linter.unusedVariables false

theorem last3 (w : World) (a b c : Obj) : (((w.alloc a).alloc b).alloc c).heap[w.heap.size + 1 + 1]? = some c := by
  have := heap_alloc_new ((w.alloc a).alloc b) c
  simpa using this
theorem mid3 (w : World) (a b c : Obj) : (((w.alloc a).alloc b).alloc c).heap[w.heap.size + 1]? = some b := by
  have := heap_alloc_new (w.alloc a) b
  rw [Below.heap_alloc _ _ _ (by simp)]
  simpa using this
theorem cells4 {w : World} {g : Nat} {v0 v1 v2 v3 : Value} {T : TypeId} (h : w.heap[g]? = some (.cells #[v0, v1, v2, v3] T (0, 0))) :
    w.cell? ⟨g, 0, none⟩ = some v0 ∧ w.cell? ⟨g, 1, none⟩ = some v1 ∧ w.cell? ⟨g, 2, none⟩ = some v2 ∧ w.cell? ⟨g, 3, none⟩ = some v3 ∧ w.frozen? ⟨g, 0, none⟩ = false ∧ w.frozen? ⟨g, 1, none⟩ = false ∧ w.frozen? ⟨g, 2, none⟩ = false ∧ w.frozen? ⟨g, 3, none⟩ = false := by
  refine ⟨by simp [World.cell?, h], by simp [World.cell?, h], by simp [World.cell?, h], by simp [World.cell?, h], by simp [World.frozen?, h], by simp [World.frozen?, h], by simp [World.frozen?, h], by simp [World.frozen?, h]⟩

/-- A node without the place of its props. -/
def NodG.bare (n : NodG) : NodG := { n with pao := none, pcap := 0 }
/-- Nodes and props in rows that the call owns, no two in one. -/
structure TreeOwn (w : World) (base : Nat) (v : Value) (l : List NodG) : Prop where
  row : w.ownsRow base 120 4 v l.length (flatG NodG.cells l)
  props : ∀ n ∈ l, w.ownsRow base 165 2 (.slice n.pao n.props.length n.pcap) n.props.length (flatG PropV.cells n.props)
  apart : l.Pairwise fun a b => ∀ x y, a.pao = some x → b.pao = some y → x.block ≠ y.block
  off : ∀ n ∈ l, ∀ x, n.pao = some x → v.ownBlock ≠ some x.block
theorem props_own {w : World} {base : Nat} {T : TypeId} {ao : Option Addr} {cap : Nat} {l : List PropV} (h : w.ownsRow base T 2 (.slice ao l.length cap) l.length (flatG PropV.cells l)) : PropsAt w ao l := by
  rcases h.2 with ⟨e, hn⟩ | ⟨g, cap', cur, e, hb, hg, h1, h2, h3, h4⟩
  · rw [List.eq_nil_of_length_eq_zero hn]
    exact fun j hj => absurd hj (by simp)
  · simp only [Value.slice.injEq] at e
    obtain ⟨rfl, _, _⟩ := e
    intro j hj
    refine ⟨g, 0, rfl, (Array.getElem?_eq_some_iff.1 hg).1, ?_⟩
    have hc := fun f (hf : f < 2) (u : Value) (hu : l[j].cells[f]? = some u) => h.cells rfl (j * 2 + f) u ((flatG_get prop_len l j f hj hf).trans hu)
    simp only [Addr.add_lit] at hc
    exact ⟨hc 0 (by omega) _ rfl, hc 1 (by omega) _ rfl⟩
theorem TreeOwn.nodesAt {w : World} {base : Nat} {ao : Option Addr} {cap : Nat} {l : List NodG} (h : TreeOwn w base (.slice ao l.length cap) l) : NodesAt w ao l := by
  rcases h.row.2 with ⟨e, hn⟩ | ⟨g, cap', cur, e, hb, hg, h1, h2, h3, h4⟩
  · rw [List.eq_nil_of_length_eq_zero hn]
    exact fun j hj => absurd hj (by simp)
  · simp only [Value.slice.injEq] at e
    obtain ⟨rfl, _, _⟩ := e
    intro j hj
    refine ⟨g, 0, rfl, (Array.getElem?_eq_some_iff.1 hg).1, ?_, props_own (h.props _ (List.getElem_mem hj))⟩
    have hc := fun f (hf : f < 4) (u : Value) (hu : l[j].cells[f]? = some u) => h.row.cells rfl (j * 4 + f) u ((flatG_get nod_len l j f hj hf).trans hu)
    simp only [Addr.add_lit] at hc
    exact ⟨hc 0 (by omega) _ rfl, hc 1 (by omega) _ rfl, hc 2 (by omega) _ rfl, hc 3 (by omega) _ rfl⟩
theorem TreeOwn.stays {w w' : World} {base : Nat} {v : Value} {l : List NodG} (h : TreeOwn w base v l) (hb : Below w.heap.size w w') : TreeOwn w' base v l :=
  ⟨h.row.kept (row := none) ⟨hb.os, hb.tape, hb.output, hb.size, fun k hk _ => hb.block k hk⟩ (by cases hv : v.ownBlock <;> simp), fun n hn => (h.props n hn).kept (row := none) ⟨hb.os, hb.tape, hb.output, hb.size, fun k hk _ => hb.block k hk⟩ (by cases hv : (Value.slice n.pao n.props.length n.pcap).ownBlock <;> simp), h.apart, h.off⟩

theorem owns_moved {w w' : World} {base : Nat} {e : TypeId} {size : Nat} {v : Value} {n : Nat} {xs : List Value} (h : w.ownsRow base e size v n xs) (he : ∀ g, base ≤ g → w'.heap[g]? = w.heap[g]?) : w'.ownsRow base e size v n xs := by
  refine ⟨h.1, h.2.imp id fun ⟨g, cap, cur, e1, hb, hg, r⟩ => ⟨g, cap, cur, e1, hb, (he g hb).trans hg, r⟩⟩
theorem owns_lower {w : World} {base base' : Nat} {e : TypeId} {size : Nat} {v : Value} {n : Nat} {xs : List Value} (h : w.ownsRow base e size v n xs) (hb : base' ≤ base) : w.ownsRow base' e size v n xs := by
  refine ⟨h.1, h.2.imp id fun ⟨g, cap, cur, e1, h1, r⟩ => ⟨g, cap, cur, e1, Nat.le_trans hb h1, r⟩⟩
theorem TreeOwn.moved {w w' : World} {base : Nat} {v : Value} {l : List NodG} (h : TreeOwn w base v l) (he : ∀ g, base ≤ g → w'.heap[g]? = w.heap[g]?) : TreeOwn w' base v l :=
  ⟨owns_moved h.row he, fun n hn => owns_moved (h.props n hn) he, h.apart, h.off⟩
theorem TreeOwn.lower {w : World} {base base' : Nat} {v : Value} {l : List NodG} (h : TreeOwn w base v l) (hb : base' ≤ base) : TreeOwn w base' v l :=
  ⟨owns_lower h.row hb, fun n hn => owns_lower (h.props n hn) hb, h.apart, h.off⟩

/-- What lies in a tree that is being copied. -/
structure Copied (w : World) (G : Nat) (l d : List NodG) : Prop where
  bare : d.map NodG.bare = (l.take d.length).map NodG.bare
  row : InG NodG.cells w G 120 (partG NodG.none0 d l.length)
  props : ∀ n ∈ d, ∃ h, n.pao = some ⟨h, 0, none⟩ ∧ n.pcap = n.props.length ∧ G < h ∧ n.props.length ≤ 1048576 ∧ InG PropV.cells w h 165 n.props
  apart : d.Pairwise fun a b => ∀ x y, a.pao = some x → b.pao = some y → x.block ≠ y.block
theorem Copied.stays {w w' : World} {G : Nat} {l d : List NodG} (h : Copied w G l d) (hb : Below w.heap.size w w') : Copied w' G l d :=
  ⟨h.bare, h.row.stays hb, fun n hn => by obtain ⟨g, h1, h2, h3, h4, h5⟩ := h.props n hn; exact ⟨g, h1, h2, h3, h4, h5.stays hb⟩, h.apart⟩
theorem Copied.step {w : World} {G : Nat} {l d : List NodG} (h : Copied w G l d) (hd : d.length < l.length) (n : NodG) (hn : n.bare = l[d.length].bare) {g : Nat} (h1 : n.pao = some ⟨g, 0, none⟩) (h2 : n.pcap = n.props.length) (hG : G < g) (h3 : n.props.length ≤ 1048576)
    (h4 : InG PropV.cells w g 165 n.props) (h5 : ∀ m ∈ d, ∀ x, m.pao = some x → x.block < g) : Copied (putsG w G (d.length * 4) n.cells) G l (d ++ [n]) := by
  refine ⟨?_, ?_, fun m hm => ?_, ?_⟩
  · rw [List.length_append, List.map_append, h.bare]
    simp only [List.length_cons, List.length_nil, Nat.zero_add, List.map_cons, List.map_nil, List.map_take]
    rw [List.take_add_one, List.getElem?_eq_getElem (by simpa using hd), hn]
    simp
  · have := h.row.store nod_len (k := d.length) (by rw [partG_len _ _ _ (by omega)]; exact hd) n
    rwa [partG_set _ _ _ _ hd] at this
  · rcases List.mem_append.1 hm with hm | hm
    · obtain ⟨g', e1, e2, e3, e4, e5⟩ := h.props m hm
      exact ⟨g', e1, e2, e3, e4, e5.block (puts_other (by omega) _ _ _)⟩
    · obtain rfl := List.mem_singleton.1 hm
      exact ⟨g, h1, h2, hG, h3, h4.block (puts_other (by omega) _ _ _)⟩
  · rw [List.pairwise_append]
    refine ⟨h.apart, by simp, fun a ha b hb x y hx hy => ?_⟩
    obtain rfl := List.mem_singleton.1 hb
    rw [h1] at hy
    cases hy
    have := h5 a ha x hx
    simp
    omega
theorem Copied.done {w : World} {G base : Nat} {l d : List NodG} (h : Copied w G l d) (hd : d.length = l.length) (hl : l.length ≤ 1048576) (hb : base ≤ G) : TreeOwn w base (.slice (some ⟨G, 0, none⟩) d.length d.length) d ∧ d.map NodG.bare = l.map NodG.bare := by
  have hr := h.row
  rw [← hd, partG_all] at hr
  refine ⟨⟨hr.owns nod_len hb (by unfold maxLen; omega), fun n hn => ?_, h.apart, fun n hn x hx => ?_⟩, ?_⟩
  · obtain ⟨g, e1, e2, e3, e4, e5⟩ := h.props n hn
    rw [e1, e2]
    exact e5.owns prop_len (by omega) (by unfold maxLen; omega)
  · obtain ⟨g, e1, e2, e3, e4, e5⟩ := h.props n hn
    rw [e1] at hx
    cases hx
    simp [Value.ownBlock]
    omega
  · have := h.bare
    rwa [hd, List.take_length] at this

theorem cells1 {w : World} {g : Nat} {v0 : Value} {T : TypeId} (h : w.heap[g]? = some (.cells #[v0] T (0, 0))) : w.cell? ⟨g, 0, none⟩ = some v0 ∧ w.frozen? ⟨g, 0, none⟩ = false :=
  ⟨by simp [World.cell?, h], by simp [World.frozen?, h]⟩
theorem last2 (w : World) (a b : Obj) : ((w.alloc a).alloc b).heap[w.heap.size + 1]? = some b := by
  have := heap_alloc_new (w.alloc a) b
  simpa using this
theorem bare_at {l d : List NodG} (h : d.map NodG.bare = l.map NodG.bare) {k : Nat} (hk : k < l.length) : ∃ hd : k < d.length, d[k].bare = l[k].bare := by
  have hl : d.length = l.length := by simpa using congrArg List.length h
  have hd : k < d.length := by omega
  have e := congrArg (fun x => x[k]?) h
  simp only [List.getElem?_map, List.getElem?_eq_getElem hd, List.getElem?_eq_getElem hk, Option.map_some, Option.some.injEq] at e
  exact ⟨hd, e⟩
end Go.Proofs.YtfkgmkcndchkjaaGreatDoor.OpR
namespace Go.Proofs.YtfkgmkcndchkjaaGreatDoor.OpR
open Go.ChangeShapes Go.WideShapes Go.ChangeAt Go.RowKit
set_option linter.unusedVariables false

/-- The place of a node, or -1. -/
def atI (l : List NodG) (x : Int) : Int := match l.findIdx? fun n => decide (n.id = x) with
  | some i => (i : Int)
  | none => -1
def NoTo (l : List NodG) (x : Int) (k : Nat) : Prop := ∀ j (h : j < l.length), j < k → l[j].id ≠ x
theorem atI_none {l : List NodG} {x : Int} (h : NoTo l x l.length) : atI l x = -1 := by
  unfold atI
  rw [List.findIdx?_eq_none_iff.2 (fun n hn => by
    obtain ⟨j, hj, rfl⟩ := List.getElem_of_mem hn
    simpa using h j hj hj)]
theorem atI_some {l : List NodG} {x : Int} {k : Nat} (hk : k < l.length) (h : NoTo l x k) (he : l[k].id = x) : atI l x = k := by
  unfold atI
  rw [show l.findIdx? (fun n => decide (n.id = x)) = some k from List.findIdx?_eq_some_iff_getElem.2 ⟨hk, by simpa using he, fun j hj => by simpa using h j (by omega) hj⟩]
set_option maxRecDepth 100000 in
set_option maxHeartbeats 400000 in
theorem sAt_any (l : List NodG) (ao : Option Addr) (cap : Nat) (x : Int) (w : World) (hl : l.length ≤ maxLen) (hA : NodesAt w ao l) :
    Calls Tryz.prog 52 #[.agg #[.slice ao l.length cap], .int .i64 x] w fun e w' => e = .returned (.int .i64 (atI l x)) ∧ Below w.heap.size w w' := by
  unfold maxLen at hl
  have HA : Hid (NodesAt w ao l) := ⟨hA⟩
  clear hA
  go_enter Tryz.func52, Tryz.ntmps52
  go_wp2
  go_loopw [5] (fun i wr => ∃ k : Nat, k ≤ l.length ∧ i = .int .i64 k ∧ NoTo l x k ∧ wr = w.alloc (.cells #[.slice ao l.length cap] 72)) (fun i _ => l.length - (intOf i).toNat)
  case atStart => exact ⟨0, by omega, rfl, fun j h hj => by omega, rfl⟩
  case round =>
    obtain ⟨k, hk, rfl, hno, rfl⟩ := hrel
    have hB : Below w.heap.size w (w.alloc (.cells #[.slice ao l.length cap] 72)) := (Below.refl _ _).alloc (Nat.le_refl _) _
    have HN := hide hno
    clear hno
    by_cases h : k < l.length
    · obtain ⟨b, off, rfl, hlt, ho, _⟩ := HA.out k h
      obtain ⟨c0, c1, c2, c3⟩ := ho.block (hB.block b hlt)
      have hi0 : (0 : Int) ≤ (k : Int) := by omega
      have hi1 : (k : Int) < (l.length : Int) := by omega
      clear ho
      by_cases he : l[k].id = x
      · have HE := hide he
        go_wp2
        go_ret
        exact ⟨by rw [atI_some h HN.out HE.out]; rfl, hB⟩
      · go_wp2
        go_roundw
        case rel =>
          refine ⟨k + 1, by omega, by go_num, fun j hj hjk => ?_, trivial⟩
          rcases Nat.lt_or_ge j k with h' | h'
          · exact HN.out j hj h'
          · obtain rfl : j = k := by omega
            exact he
        case measure => simp [intOf]; omega
    · obtain rfl : k = l.length := by omega
      go_wp2
      go_ret
      exact ⟨by rw [atI_none HN.out]; rfl, hB⟩

theorem _root_.Go.RowKit.Below.drewN {B : Nat} {a w : World} (h : Below B a w) (n : Nat) : Below B a (w.drewN n) := ⟨h.os, h.tape, h.output, h.size, h.block⟩
theorem drew_more {a w : World} (h : ∃ q, w = a.drewN q) (n : Nat) : ∃ q, w.drewN n = a.drewN q := by
  obtain ⟨q, rfl⟩ := h
  exact ⟨q + n, World.drewN_drewN _ _ _⟩
/-- The first k are right. -/
def PropsTo (l : List PropV) (k : Nat) : Prop := (∀ j (h : j < l.length), j < k → propOk l[j] = true) ∧ ∀ j (h : j + 1 < l.length), j + 1 < k → keyLt l[j].key l[j + 1].key = true
end Go.Proofs.YtfkgmkcndchkjaaGreatDoor.OpR
namespace Go.Proofs.YtfkgmkcndchkjaaGreatDoor.OpR
open Go.ChangeShapes Go.WideShapes Go.ChangeAt Go.RowKit
set_option linter.unusedVariables false
/-- The worlds of a class. -/
structure Cls (S : World → Prop) where
  wd : World
  ok : S wd
theorem wp_region_class {ι : Type} (f : ι → World) {P : Program} {id : Nat} {Q : Exit → Act → World → Prop} {a : Act} {w : World} {l : List Oper} (hm : P.follows .mixedOrders = true) (hB : Region.lexB .any l.toArray = true) (i0 : ι) (h0 : f i0 = w.drew)
    (h : wpQuiet P l.toArray (fun w' => ∃ n, w' = f n) (fun a' => ∀ w', (∃ n, w' = f n) → Q .normal a' w') l a) : (Code.region id l.toArray true).wp P Q a w :=
  wp_region_quiet (C := fun w' => ∃ n, w' = f n) hm hB ⟨i0, h0.symm⟩ (by simpa using h)
end Go.Proofs.YtfkgmkcndchkjaaGreatDoor.OpR
namespace Go.Proofs.YtfkgmkcndchkjaaGreatDoor.OpR
open Go.ChangeShapes Go.WideShapes Go.ChangeAt Go.RowKit
set_option linter.unusedVariables false

set_option maxRecDepth 100000 in
set_option maxHeartbeats 400000 in
theorem nodAhead_any (a b : NodG) (w : World) :
    Calls Tryz.prog 169 #[a.agg, b.agg] w fun e w' => e = .returned (.bool (decide (a.id < b.id))) ∧ Below w.heap.size w w' := by
  unfold NodG.agg
  go_enter Tryz.func169, Tryz.ntmps169
  go_wp2
  go_ret
  exact ⟨rfl, ((Below.refl _ _).alloc (Nat.le_refl _) _).alloc (by simp) _⟩
set_option maxRecDepth 100000 in
set_option maxHeartbeats 400000 in
theorem propAhead_any (a b : PropV) (w : World) :
    Calls Tryz.prog 179 #[a.agg, b.agg] w fun e w' => e = .returned (.bool (keyLt a.key b.key)) ∧ Below w.heap.size w w' := by
  unfold PropV.agg
  go_enter Tryz.func179, Tryz.ntmps179
  go_wp2
  go_ret
  exact ⟨rfl, ((Below.refl _ _).alloc (Nat.le_refl _) _).alloc (by simp) _⟩

set_option maxRecDepth 100000 in
set_option maxHeartbeats 400000 in
theorem iRisesN_any (l : List NodG) (ao : Option Addr) (cap : Nat) (w : World) (hl : l.length ≤ maxLen) (hA : NodesAt w ao l) :
    Calls Tryz.prog 170 #[.slice ao l.length cap, .func (.func 169) #[] #[]] w fun e w' => e = .returned (.bool (risesN l)) ∧ Below w.heap.size w w' := by
  unfold maxLen at hl
  have HA : Hid (NodesAt w ao l) := ⟨hA⟩
  clear hA
  go_enter Tryz.func170, Tryz.ntmps170
  go_wp2
  go_loopw [5] (fun i wr => ∃ k : Nat, (k ≤ l.length ∨ k = 0) ∧ i = .int .i64 ((k : Int) + 1) ∧ (∀ j (h : j + 1 < l.length), j < k → l[j].id < l[j + 1].id) ∧ Below w.heap.size w wr) (fun i _ => l.length - (intOf i).toNat)
  case atStart => exact ⟨0, .inr rfl, by go_num, fun j h hj => by omega, Below.refl _ _⟩
  case round =>
    obtain ⟨k, hk, rfl, hal, hb⟩ := hrel
    have HL : Hid (∀ j (h : j + 1 < l.length), j < k → l[j].id < l[j + 1].id) := ⟨hal⟩
    clear hal hk
    by_cases h : k + 1 < l.length
    · obtain ⟨b, off, rfl, hlt, ho, _⟩ := HA.out (k + 1) h
      have hT : (((k : Int) + 1).toNat) = k + 1 := by omega
      have hi3 : (0 : Int) ≤ (k : Int) + 1 := by omega
      have hW : IntKind.i64.wrap (k : Int) = (k : Int) := by rw [IntKind.wrap_i64]; omega
      have hW2 : wrap64 (k : Int) = (k : Int) := by unfold wrap64; omega
      obtain ⟨c0, c1, c2, c3⟩ := ho.block (w' := wr) (hb.block b hlt)
      obtain ⟨b2, off2, hq, hlt2, ho2, _⟩ := HA.out k (by omega)
      cases hq
      obtain ⟨d0, d1, d2, d3⟩ := ho2.block (w' := wr) (hb.block b hlt)
      have hcall := nodAhead_any l[k] l[k + 1] wr.drew
      unfold NodG.agg at hcall
      have hi0 : (0 : Int) ≤ (k : Int) := by omega
      have hi1 : (k : Int) + 1 < (l.length : Int) := by omega
      have hi2 : (k : Int) < (l.length : Int) := by omega
      clear ho ho2
      by_cases ha : l[k].id < l[k + 1].id
      · have HA2 := hide ha
        rw [decide_eq_true ha] at hcall
        clear ha
        go_wp2
        go_region_with (go_at_call 169; refine hcall.mono ?_; rintro e w1 ⟨rfl, hb1⟩)
        all_goals (
          clear hcall c0 c1 c2 c3 d0 d1 d2 d3
          go_wp2
          go_roundw
          case rel =>
            refine ⟨k + 1, .inl (by omega), by go_num, fun j hj hjk => ?_, hb.drew.trans (hb1.mono hb.size)⟩
            rcases Nat.lt_or_ge j k with h' | h'
            · exact HL.out j hj h'
            · obtain rfl : j = k := by omega
              exact HA2.out
          case measure => simp [intOf]; omega)
      · have HF : Hid (risesN l = false) := ⟨risesN_no fun hr => ha (hr k h)⟩
        rw [decide_eq_false ha] at hcall
        clear ha
        go_wp2
        go_region_with (go_at_call 169; refine hcall.mono ?_; rintro e w1 ⟨rfl, hb1⟩)
        all_goals (
          clear hcall c0 c1 c2 c3 d0 d1 d2 d3
          go_wp2
          go_ret
          exact ⟨ret_bool (by rw [HF.out]), hb.drew.trans (hb1.mono hb.size)⟩)
    · have HF : Hid (risesN l = true) := ⟨risesN_yes fun j hj => HL.out j hj (by omega)⟩
      go_wp2
      go_ret
      exact ⟨ret_bool (by rw [HF.out]), hb⟩

set_option maxRecDepth 100000 in
set_option maxHeartbeats 400000 in
theorem iRisesP_any (l : List PropV) (ao : Option Addr) (cap : Nat) (w : World) (hl : l.length ≤ maxLen) (hA : PropsAt w ao l) :
    Calls Tryz.prog 189 #[.slice ao l.length cap, .func (.func 179) #[] #[]] w fun e w' => e = .returned (.bool (allTo l.length (propRise l))) ∧ Below w.heap.size w w' := by
  unfold maxLen at hl
  have HA : Hid (PropsAt w ao l) := ⟨hA⟩
  clear hA
  go_enter Tryz.func189, Tryz.ntmps189
  go_wp2
  go_loopw [5] (fun i wr => ∃ k : Nat, (k ≤ l.length ∨ k = 0) ∧ i = .int .i64 ((k : Int) + 1) ∧ (∀ j (h : j + 1 < l.length), j < k → keyLt l[j].key l[j + 1].key = true) ∧ Below w.heap.size w wr) (fun i _ => l.length - (intOf i).toNat)
  case atStart => exact ⟨0, .inr rfl, by go_num, fun j h hj => by omega, Below.refl _ _⟩
  case round =>
    obtain ⟨k, hk, rfl, hal, hb⟩ := hrel
    have HL : Hid (∀ j (h : j + 1 < l.length), j < k → keyLt l[j].key l[j + 1].key = true) := ⟨hal⟩
    clear hal hk
    by_cases h : k + 1 < l.length
    · obtain ⟨b, off, rfl, hlt, ho⟩ := HA.out (k + 1) h
      have hT : (((k : Int) + 1).toNat) = k + 1 := by omega
      have hi3 : (0 : Int) ≤ (k : Int) + 1 := by omega
      have hW : IntKind.i64.wrap (k : Int) = (k : Int) := by rw [IntKind.wrap_i64]; omega
      have hW2 : wrap64 (k : Int) = (k : Int) := by unfold wrap64; omega
      obtain ⟨c0, c1⟩ := ho.block (w' := wr) (hb.block b hlt)
      obtain ⟨b2, off2, hq, hlt2, ho2⟩ := HA.out k (by omega)
      cases hq
      obtain ⟨d0, d1⟩ := ho2.block (w' := wr) (hb.block b hlt)
      have hcall := propAhead_any l[k] l[k + 1] wr.drew
      unfold PropV.agg at hcall
      have hi0 : (0 : Int) ≤ (k : Int) := by omega
      have hi1 : (k : Int) + 1 < (l.length : Int) := by omega
      have hi2 : (k : Int) < (l.length : Int) := by omega
      clear ho ho2
      go_wp2
      go_region_with (go_at_call 179; refine hcall.mono ?_; rintro e w1 ⟨rfl, hb1⟩)
      all_goals (
        clear hcall c0 c1 d0 d1
        cases ha : keyLt l[k].key l[k + 1].key
        · have HF : Hid (allTo l.length (propRise l) = false) := ⟨bool_no (propRise_iff l) fun hr => by rw [hr k h] at ha; cases ha⟩
          go_wp2
          go_ret
          exact ⟨ret_bool (by rw [HF.out]), hb.drew.trans (hb1.mono hb.size)⟩
        · have HA2 := hide ha
          go_wp2
          go_roundw
          case rel =>
            refine ⟨k + 1, .inl (by omega), by go_num, fun j hj hjk => ?_, hb.drew.trans (hb1.mono hb.size)⟩
            rcases Nat.lt_or_ge j k with h' | h'
            · exact HL.out j hj h'
            · obtain rfl : j = k := by omega
              exact HA2.out
          case measure => simp [intOf]; omega)
    · have HF : Hid (allTo l.length (propRise l) = true) := ⟨(propRise_iff l).2 fun j hj => HL.out j hj (by omega)⟩
      go_wp2
      go_ret
      exact ⟨ret_bool (by rw [HF.out]), hb⟩

set_option maxRecDepth 100000 in
set_option maxHeartbeats 400000 in
theorem iProps_any (l : List PropV) (ao : Option Addr) (cap : Nat) (w : World) (hl : l.length ≤ maxLen) (hA : PropsAt w ao l) (hS : SizedP 1048576 l) :
    Calls Tryz.prog 180 #[.slice ao l.length cap] w fun e w' => e = .returned (.bool (propsOk l)) ∧ Below w.heap.size w w' := by
  have hri := iRisesP_any l ao cap w hl hA
  unfold maxLen at hl
  have HA : Hid (PropsAt w ao l) := ⟨hA⟩
  have HS := hide hS
  clear hA hS
  by_cases h20 : l.length ≤ 20
  · have h20' : decide ((20 : Int) < (l.length : Int)) = false := by simp; omega
    cases hr : allTo l.length (propRise l)
    · have HF : Hid (propsOk l = false) := ⟨propsOk_no fun hp => by rw [(propRise_iff l).2 hp.2.2] at hr; cases hr⟩
      rw [hr] at hri
      go_enter Tryz.func180, Tryz.ntmps180
      go_wp2_with (first | (go_at_call 189; refine hri.mono ?_; rintro e w1 ⟨rfl, hb1⟩))
      go_ret
      exact ⟨ret_bool (by rw [HF.out]), hb1⟩
    · have HR := hide ((propRise_iff l).1 hr)
      rw [hr] at hri
      go_enter Tryz.func180, Tryz.ntmps180
      go_wp2_with (first | (go_at_call 189; refine hri.mono ?_; rintro e w1 ⟨rfl, hb1⟩))
      clear hri
      go_loopw [15] (fun i wr => ∃ k : Nat, k ≤ l.length ∧ i = .int .i64 k ∧ (∀ j (h : j < l.length), j < k → propOk l[j] = true) ∧ Below w.heap.size w wr) (fun i _ => l.length - (intOf i).toNat)
      case atStart => exact ⟨0, by omega, rfl, fun j h hj => by omega, hb1⟩
      case round =>
        obtain ⟨k, hk, rfl, hal, hb⟩ := hrel
        have HL := hide hal
        clear hal
        by_cases h : k < l.length
        · obtain ⟨b, off, rfl, hlt, ho⟩ := HA.out k h
          obtain ⟨c0, c1⟩ := ho.block (w' := wr) (hb.block b hlt)
          have hi0 : (0 : Int) ≤ (k : Int) := by omega
          have hi1 : (k : Int) < (l.length : Int) := by omega
          have hsz := HS.out _ (List.getElem_mem h)
          have hN := fun W => NameR.impl_any l[k].key W (by unfold maxLen; omega)
          obtain ⟨s, hs⟩ : ∃ s, l[k] = s := ⟨_, rfl⟩
          rw [hs] at c0 c1 hN hsz
          have HE := hide hs
          clear hs ho
          cases hnm : NameR.nmB s.key
          · have HF : Hid (propsOk l = false) := ⟨propsOk_no fun hp => by have := hp.2.1 _ (List.getElem_mem h); rw [HE.out] at this; simp [propOk, hnm] at this⟩
            simp only [hnm] at hN
            go_wp2_with (first | (go_at_call 105; refine (hN _).mono ?_; rintro e w2 ⟨rfl, rfl⟩))
            go_ret
            exact ⟨ret_bool (by rw [HF.out]), hb.alloc hb.size _⟩
          · simp only [hnm] at hN
            by_cases hv : (s.value.size : Int) ≤ 40
            · have HP : Hid (propOk l[k] = true) := ⟨by rw [HE.out]; simp [propOk, hnm]; omega⟩
              have hv2 : decide ((40 : Int) < (s.value.size : Int)) = false := by simp; omega
              go_wp2_with (first | (go_at_call 105; refine (hN _).mono ?_; rintro e w2 ⟨rfl, rfl⟩))
              go_roundw
              case rel =>
                refine ⟨k + 1, by omega, by go_num, fun j hj hjk => ?_, hb.alloc hb.size _⟩
                rcases Nat.lt_or_ge j k with h' | h'
                · exact HL.out j hj h'
                · obtain rfl : j = k := by omega
                  exact HP.out
              case measure => simp [intOf]; omega
            · have HF : Hid (propsOk l = false) := ⟨propsOk_no fun hp => by have := hp.2.1 _ (List.getElem_mem h); rw [HE.out] at this; simp [propOk] at this; omega⟩
              have hv2 : (40 : Int) < (s.value.size : Int) := by omega
              go_wp2_with (first | (go_at_call 105; refine (hN _).mono ?_; rintro e w2 ⟨rfl, rfl⟩))
              go_ret
              exact ⟨ret_bool (by rw [HF.out]), hb.alloc hb.size _⟩
        · have HF : Hid (propsOk l = true) := ⟨propsOk_yes ⟨h20, fun p hp => by obtain ⟨j, hj, rfl⟩ := List.getElem_of_mem hp; exact HL.out j hj (by omega), HR.out⟩⟩
          go_wp2
          go_ret
          exact ⟨ret_bool (by rw [HF.out]), hb⟩
  · have HF : Hid (propsOk l = false) := ⟨propsOk_no fun hp => h20 hp.1⟩
    have h20' : (20 : Int) < (l.length : Int) := by omega
    clear hri
    go_enter Tryz.func180, Tryz.ntmps180
    go_wp2
    go_ret
    exact ⟨ret_bool (by rw [HF.out]), Below.refl _ _⟩
end Go.Proofs.YtfkgmkcndchkjaaGreatDoor.OpR
namespace Go.Proofs.YtfkgmkcndchkjaaGreatDoor.OpR
open Go.ChangeShapes Go.WideShapes Go.ChangeAt Go.RowKit
set_option linter.unusedVariables false

def ltP (a b : PropV) : Bool := keyLt a.key b.key
def leP (a b : PropV) : Bool := !ltP b a
def mrgP (a b : List PropV) : List PropV := List.merge a b leP
theorem mrgP_nil_left (b : List PropV) : mrgP [] b = b := by simp [mrgP]
theorem mrgP_nil_right (a : List PropV) : mrgP a [] = a := by simp [mrgP]
theorem mrgP_right {x y : PropV} (a b : List PropV) (h : ltP y x = true) : mrgP (x :: a) (y :: b) = y :: mrgP (x :: a) b := by
  unfold mrgP; rw [List.cons_merge_cons]; simp [leP, h]
theorem mrgP_left {x y : PropV} (a b : List PropV) (h : ltP y x = false) : mrgP (x :: a) (y :: b) = x :: mrgP a (y :: b) := by
  unfold mrgP; rw [List.cons_merge_cons]; simp [leP, h]
theorem mrgP_perm (a b : List PropV) : (mrgP a b).Perm (a ++ b) := List.merge_perm_append leP
theorem mrgP_len (a b : List PropV) : (mrgP a b).length = a.length + b.length := by rw [(mrgP_perm a b).length_eq, List.length_append]

theorem PropsAt.at0P {w : World} {b off : Nat} {l : List PropV} (h : PropsAt w (some ⟨b, off, none⟩) l) {k : Nat} (hk : k < l.length) : PropAt w b (off + k * 2) l[k] := by
  obtain ⟨b', off', e, _, ho⟩ := h k hk
  cases e
  exact ho
theorem PropsAt.news {w : World} {ad : Addr} {l : List PropV} (h : PropsAt w (some ad) l) : ∀ j u, (flatG PropV.cells l)[j]? = some u → w.cell? (ad.add j) = some u := by
  intro j u hu
  have hj : j < l.length * 2 := by rw [← flatG_len prop_len]; exact (List.getElem?_eq_some_iff.1 hu).1
  obtain ⟨k, f, rfl, hf⟩ : ∃ k f, j = k * 2 + f ∧ f < 2 := ⟨j / 2, j % 2, by omega, by omega⟩
  have hk : k < l.length := by omega
  rw [flatG_get prop_len l k f hk hf] at hu
  obtain ⟨b', off', e, _, c0, c1⟩ := h k hk
  cases e
  rw [Addr.add_lit]
  match f, hf with
  | 0, _ => exact c0.trans hu
  | 1, _ => exact c1.trans hu
theorem PropsAt.nil_of {w : World} {l : List PropV} (h : PropsAt w none l) : l = [] := by
  cases l with
  | nil => rfl
  | cons o r => obtain ⟨b, off, e, _⟩ := h 0 (by simp); cases e
theorem oneP : ∀ (l : List PropV), ∀ u ∈ flatG PropV.cells l, u.oneCell' = true := by
  intro l u hu
  obtain ⟨o, _, ho⟩ := List.mem_flatMap.1 hu
  simp only [PropV.cells, List.mem_cons, List.not_mem_nil, or_false] at ho
  rcases ho with rfl | rfl <;> rfl
theorem one1P (o : PropV) : ∀ u ∈ o.cells, u.oneCell' = true := fun u hu => oneP [o] u (by simpa [flatG] using hu)
/-- A row that the call owns, at a place. -/
def OwnP (w : World) (base : Nat) (v : Value) (l : List PropV) : Prop := w.ownsRow base 165 2 v l.length (flatG PropV.cells l) ∧ v ≠ .slice none 0 0
theorem OwnP.at {w : World} {base : Nat} {v : Value} {l : List PropV} (h : OwnP w base v l) : ∃ g cap, v = .slice (some ⟨g, 0, none⟩) l.length cap ∧ base ≤ g ∧ g < w.heap.size ∧ l.length ≤ cap ∧ cap ≤ maxLen := by
  rcases h.1.2 with ⟨e, _⟩ | ⟨g, cap, cur, rfl, hb, hg, hl, hm, hs, ht⟩
  · exact absurd e h.2
  · exact ⟨g, cap, rfl, hb, (Array.getElem?_eq_some_iff.1 hg).1, hl, hm⟩
theorem OwnP.below {w w' : World} {base : Nat} {v : Value} {l : List PropV} (h : OwnP w base v l) (hb : Below w.heap.size w w') : OwnP w' base v l :=
  ⟨h.1.kept (row := none) ⟨hb.os, hb.tape, hb.output, hb.size, fun k hk _ => hb.block k hk⟩ (by cases hv : v.ownBlock <;> simp), h.2⟩
theorem owns_cellsP {w : World} {base : Nat} {ao : Option Addr} {cap : Nat} {l : List PropV} (h : w.ownsRow base 165 2 (.slice ao l.length cap) l.length (flatG PropV.cells l)) : PropsAt w ao l := by
  rcases h.2 with ⟨e, hn⟩ | ⟨g, cap', cur, e, hb, hg, h1, h2, h3, h4⟩
  · rw [List.eq_nil_of_length_eq_zero hn]
    exact fun j hj => absurd hj (by simp)
  · simp only [Value.slice.injEq] at e
    obtain ⟨rfl, _, _⟩ := e
    intro j hj
    refine ⟨g, 0, rfl, (Array.getElem?_eq_some_iff.1 hg).1, ?_⟩
    have hc := fun f (hf : f < 2) (u : Value) (hu : l[j].cells[f]? = some u) => h.cells rfl (j * 2 + f) u ((flatG_get prop_len l j f hj hf).trans hu)
    simp only [Addr.add_lit] at hc
    exact ⟨hc 0 (by omega) _ rfl, hc 1 (by omega) _ rfl⟩
theorem owns_atP {w : World} {base : Nat} {v : Value} {l : List PropV} (h : w.ownsRow base 165 2 v l.length (flatG PropV.cells l)) : ∃ ao c, v = .slice ao l.length c ∧ l.length ≤ c ∧ PropsAt w ao l := by
  have h' := h
  rcases h.2 with ⟨e, hn⟩ | ⟨g, cap', cur, e, hb, hg, h1, h2, h3, h4⟩
  · have hl : l = [] := List.eq_nil_of_length_eq_zero hn
    subst hl
    exact ⟨none, 0, e, Nat.le_refl _, fun j hj => absurd hj (by simp)⟩
  · rw [e] at h'
    exact ⟨_, cap', e, h1, owns_cellsP h'⟩
/-- Elements appended to a row that the call owns: whatever slice they lie in, nil too. -/
theorem wpList_append_P {ops : Array Oper} {rest : List Oper} {o : Oper} {a : Act} {w : World} {Q : Exit → Act → World → Prop} (hgd : o.guard = none) (s x : Operand)
    (ho : o.op = .call { callee := .builtin .append, args := #[s, x], argTypes := #[118, 118] })
    (base : Nat) (v : Value) (out : List PropV) (hs : a.eval s = v) (hown : w.ownsRow base 165 2 v out.length (flatG PropV.cells out))
    (ao : Option Addr) (m : List PropV) (c : Nat) (hx : a.eval x = .slice ao m.length c) (hA : PropsAt w ao m)
    (hlen : out.length + m.length ≤ 2200000) (hbase : base ≤ w.heap.size)
    (h : ∀ v' w', w'.ownsRow base 165 2 v' (out ++ m).length (flatG PropV.cells (out ++ m)) → w.grownBy w' v.ownBlock → (v' = .slice none 0 0 ↔ v = .slice none 0 0 ∧ m.length = 0) → wpList Tryz.prog ops Q rest (a.put o.dst v') w') : wpList Tryz.prog ops Q (o :: rest) a w := by
  obtain ⟨i0, hi, hzz⟩ := Option.map_eq_some_iff.1 infoProp
  simp only [Prod.mk.injEq] at hzz
  obtain ⟨hz0, hz1, hz2⟩ := hzz
  have hm : maxLen = 9223372036854775807 := rfl
  cases ao with
  | some ad =>
    refine wpList_append_own _ hgd s x 118 ho base 165 i0 _ 2 32 Tryz.underlying118 hi hz0 hz1 hz2 rfl (by decide) v out.length (flatG PropV.cells out) hs hown ad m.length c (flatG PropV.cells m) hx (flatG_len prop_len m) hA.news (oneP m) (by omega) (by omega) hbase (fun v' w' h1 h2 h3 => h v' w' ?_ h2 h3)
    rw [List.length_append, flatG_app]; exact h1
  | none =>
    obtain rfl := hA.nil_of
    have hrun : (Builtin.append_ #[118, 118] o.type #[v, .slice none 0 c]).run Tryz.prog w = .ok v w := by
      rcases hown.2 with ⟨rfl, _⟩ | ⟨g, cap, cur, rfl, _, _, hnc, _⟩
      · simp [Builtin.append_, run_underlying Tryz.underlying118, sizeOf, typeInfo, hi, Builtin.lenOf, Builtin.firstCells]
      · simp [Builtin.append_, run_underlying Tryz.underlying118, sizeOf, typeInfo, hi, Builtin.lenOf, Builtin.firstCells, loadCells, storeCells, hnc]
    refine wpList_plain hgd fun K hK => ?_
    have hx' : a.eval x = .slice none 0 c := hx
    unfold Oper.wp execOp
    simp only [ho, resolve, invoke, builtin, Sem.run_bind, Sem.run_pure, Result.andThen_ok, List.map_toArray, List.map_cons, List.map_nil, hs, hx', hrun]
    refine hK _ _ (h v w ?_ ⟨rfl, rfl, rfl, Nat.le_refl _, fun _ _ _ => rfl⟩ (by simp))
    rw [List.append_nil]; exact hown
/-- Where a slice from k on begins. -/
def fromP (o cap k : Nat) : Nat := if cap = k then o else o + k * 2
theorem slice_fromP (W : World) (g o len cap k : Nat) (K : Int) (hK : K = (k : Int)) (h : k ≤ len) :
    (Instr.slice 118 (.slice (some ⟨g, o, none⟩) len cap) (some (.int .i64 K)) none none).run Tryz.prog W = .ok (.slice (some ⟨g, fromP o cap k, none⟩) (len - k) (cap - k)) W := by
  subst hK
  have ht : Tryz.prog.underlying 118 = some (.slice (Tryz.prog.elem 118)) := by kernel_rfl
  have hs : ∀ w, (sizeOf (Tryz.prog.elem 118)).run Tryz.prog w = .ok 2 w := fun _ => by kernel_rfl
  rw [run_slice_l W 118 (some ⟨g, o, none⟩) len cap ht .i64 (k : Int) (by omega) (by omega), hs]
  simp only [Result.andThen, sliced, Int.toNat_natCast, Option.map_some, add_plain]
  unfold fromP
  by_cases e : cap = k
  · simp [e]
  · simp [e]
theorem slice_cutP (W : World) (g o len cap k : Nat) (K : Int) (hK : K = (k : Int)) (h : k ≤ cap) :
    (Instr.slice 118 (.slice (some ⟨g, o, none⟩) len cap) none (some (.int .i64 K)) (some (.int .i64 K))).run Tryz.prog W = .ok (.slice (some ⟨g, o, none⟩) k k) W := by
  subst hK
  have ht : Tryz.prog.underlying 118 = some (.slice (Tryz.prog.elem 118)) := by kernel_rfl
  have hs : ∀ w, (sizeOf (Tryz.prog.elem 118)).run Tryz.prog w = .ok 2 w := fun _ => by kernel_rfl
  rw [run_slice_hm W 118 (some ⟨g, o, none⟩) len cap ht .i64 .i64 (k : Int) (k : Int) (by omega) (by omega) (by omega), hs]
  simp [Result.andThen, sliced, Addr.add]
theorem PropsAt.from {w : World} {g o : Nat} {l : List PropV} (h : PropsAt w (some ⟨g, o, none⟩) l) {cap : Nat} (k : Nat) (hc : l.length ≤ cap) : PropsAt w (some ⟨g, fromP o cap k, none⟩) (l.drop k) := fun j hj => by
  have hj' : k + j < l.length := by rw [List.length_drop] at hj; omega
  have ho := h.at0P hj'
  obtain ⟨_, _, e, hlt, _⟩ := h (k + j) hj'
  cases e
  refine ⟨g, fromP o cap k, rfl, hlt, ?_⟩
  rw [List.getElem_drop]
  unfold fromP
  rw [if_neg (by omega), Nat.add_assoc, ← Nat.add_mul]
  exact ho
theorem PropsAt.take {w : World} {b off : Nat} {l : List PropV} (h : PropsAt w (some ⟨b, off, none⟩) l) (k : Nat) : PropsAt w (some ⟨b, off, none⟩) (l.take k) := fun j hj => by
  have hj' : j < l.length := by rw [List.length_take] at hj; omega
  obtain ⟨b', off', e, hlt, ho⟩ := h j hj'
  exact ⟨b', off', e, hlt, by rw [List.getElem_take]; exact ho⟩
theorem make_capP (n : Nat) (N : Int) (hN : N = (n : Int)) (hn : n ≤ 1048576) (w : World) : (Instr.makeSlice 118 (.int .i64 0) (.int .i64 N)).run Tryz.prog w = .ok (.slice (some ⟨w.heap.size, 0, none⟩) 0 n) (w.alloc (.cells (flatG PropV.cells (List.replicate n PropV.zero)).toArray 165)) := by
  subst hN
  obtain ⟨i, hi, hz⟩ := Option.map_eq_some_iff.1 infoProp
  simp only [Prod.mk.injEq] at hz
  obtain ⟨hz, hs, hb⟩ := hz
  have h := run_make (P := Tryz.prog) w 118 165 i _ Tryz.underlying118 hi hz .i64 .i64 0 n (by omega) (by omega) (by rw [hb]; omega) (by omega)
  simp only [Int.toNat_natCast, hs] at h
  rw [← made_cells prop_len (by omega) PropV.zero n]
  exact h
def aheadFnP : Value := .func (.func 179) #[] #[]
theorem news1P (x : World) (o : PropV) (T : TypeId) : ∀ j u, o.cells[j]? = some u → (x.alloc (.cells #[.string o.key, .string o.value] T)).drew.cell? ((⟨x.heap.size, 0, none⟩ : Addr).add j) = some u := by
  intro j u hu
  rw [Addr.add_lit, Nat.zero_add]
  show (x.alloc (.cells #[.string o.key, .string o.value] T)).cell? ⟨x.heap.size, j, none⟩ = some u
  rw [World.cell?_alloc_at _ _ _ _ rfl]
  simpa [PropV.cells] using hu
def sliceLenP : Value → Nat
  | .slice _ n _ => n
  | _ => 0
set_option maxRecDepth 100000 in
set_option maxHeartbeats 1000000 in
theorem mergedP_any (a b : List PropV) (ao bo : Option Addr) (ca cb : Nat) (w : World) (ha : a.length ≤ 400) (hb : b.length ≤ 400) (hca : a.length ≤ ca) (hcb : b.length ≤ cb) (hA : PropsAt w ao a) (hB : PropsAt w bo b) :
    Calls Tryz.prog 178 #[.slice ao a.length ca, .slice bo b.length cb, aheadFnP] w fun e w' => ∃ v, e = .returned v ∧ OwnP w' w.heap.size v (mrgP a b) ∧ Below w.heap.size w w' := by
  unfold aheadFnP
  have hmk := fun W => make_capP (a.length + b.length) ((a.length : Int) + (b.length : Int)) (by omega) (by omega) W
  have HA : Hid (PropsAt w ao a) := ⟨hA⟩
  have HB : Hid (PropsAt w bo b) := ⟨hB⟩
  clear hA hB
  have HCa : Hid (a.length ≤ ca) := ⟨hca⟩
  have HCb : Hid (b.length ≤ cb) := ⟨hcb⟩
  clear hca hcb
  have hown0 := World.ownsRow_made (base := w.heap.size) (e := 165) (size := 2) w (flatG PropV.cells (List.replicate (a.length + b.length) PropV.zero)).toArray (a.length + b.length) (Nat.le_refl _) (by unfold maxLen; omega) (by simp [flatG_len prop_len])
  have HO0 : Hid (OwnP (w.alloc (.cells (flatG PropV.cells (List.replicate (a.length + b.length) PropV.zero)).toArray 165)) w.heap.size (.slice (some ⟨w.heap.size, 0, none⟩) 0 (a.length + b.length)) []) := ⟨hown0, by simp⟩
  clear hown0
  obtain ⟨i0, hi, hzz⟩ := Option.map_eq_some_iff.1 infoProp
  simp only [Prod.mk.injEq] at hzz
  obtain ⟨hz0, hz1, hz2⟩ := hzz
  go_enter Tryz.func178, Tryz.ntmps178
  go_wp2
  clear hmk
  go_loopw [0, 1, 7] (fun va vb vo wr => ∃ p q out pao qbo pc qc, va = .slice pao (List.length p) pc ∧ vb = .slice qbo (List.length q) qc ∧ List.length p ≤ pc ∧ List.length q ≤ qc ∧ PropsAt w pao p ∧ PropsAt w qbo q ∧ OwnP wr w.heap.size vo out ∧ out ++ mrgP p q = mrgP a b ∧ List.length out + p.length + q.length = a.length + b.length ∧ Below w.heap.size w wr) (fun va vb _ _ => sliceLenP va + sliceLenP vb)
  case atStart => exact ⟨a, b, [], ao, bo, ca, cb, rfl, rfl, HCa.out, HCb.out, HA.out, HB.out, HO0.out, rfl, by simp, (Below.refl _ _).alloc (Nat.le_refl _) _⟩
  case round =>
    obtain ⟨p, q, out, pao, qbo, pc, qc, rfl, rfl, hpc, hqc, hP, hQ, hO, hM, hlen, hbw⟩ := hrel
    have HP : Hid (PropsAt w pao p) := ⟨hP⟩
    have HQ : Hid (PropsAt w qbo q) := ⟨hQ⟩
    have HO : Hid (OwnP wr w.heap.size u7 out) := ⟨hO⟩
    have HM : Hid (out ++ mrgP p q = mrgP a b) := ⟨hM⟩
    clear hP hQ hO hM
    by_cases hp : 0 < p.length
    · by_cases hq : 0 < q.length
      · obtain ⟨x, p, rfl⟩ : ∃ x p', p = x :: p' := by cases p with | nil => simp at hp | cons x p' => exact ⟨x, p', rfl⟩
        obtain ⟨y, q, rfl⟩ : ∃ y q', q = y :: q' := by cases q with | nil => simp at hq | cons y q' => exact ⟨y, q', rfl⟩
        obtain ⟨g1, o1, rfl, hlt1, ho1⟩ := HP.out 0 (by simp)
        obtain ⟨g2, o2, rfl, hlt2, ho2⟩ := HQ.out 0 (by simp)
        have hx0 : PropAt w g1 o1 x := by simpa using ho1
        have hy0 : PropAt w g2 o2 y := by simpa using ho2
        have HX : Hid (PropAt w g1 o1 x) := ⟨hx0⟩
        have HY : Hid (PropAt w g2 o2 y) := ⟨hy0⟩
        obtain ⟨c0, c1⟩ := hx0.block (hbw.block g1 hlt1)
        obtain ⟨d0, d1⟩ := hy0.block (hbw.block g2 hlt2)
        have hcall := fun W => propAhead_any y x W
        unfold PropV.agg at hcall
        simp only [show (keyLt y.key x.key) = ltP y x from rfl] at hcall
        simp only [List.length_cons] at hlen hpc hqc hp hq ⊢
        clear hx0 hy0 ho1 ho2
        obtain ⟨g, cap, rfl, hg1, hg2, hcap, hcm⟩ := HO.out.at
        go_wp2
        go_region_held3 (fun w' => w'.cell? ⟨g1, o1, none⟩ = some (.string x.key) ∧ w'.cell? ⟨g1, o1 + 1, none⟩ = some (.string x.value) ∧ w'.cell? ⟨g2, o2, none⟩ = some (.string y.key) ∧ w'.cell? ⟨g2, o2 + 1, none⟩ = some (.string y.value)) (exact ⟨c0, c1, d0, d1⟩) (first | (go_at_call 179; refine (hcall _).mono ?_; rintro e x1 ⟨rfl, hx1⟩; have hX : Below w.heap.size w x1 := hbw.drew.trans (hx1.mono hbw.size); obtain ⟨c0, c1⟩ := HX.out.block (hX.block g1 hlt1); obtain ⟨d0, d1⟩ := HY.out.block (hX.block g2 hlt2)))
        clear hcall c0 c1 d0 d1
        have HO1 : Hid (OwnP x1 w.heap.size (.slice (some ⟨g, 0, none⟩) out.length cap) out) := ⟨HO.out.below ((Below.refl _ _).drew.trans (hx1.mono (by simp)))⟩
        cases ha : ltP y x
        · go_wp2
          have hsl := fun W => slice_fromP W g1 o1 (p.length + 1) pc 1 1 rfl (by omega)
          have hXs := hX.size
          go_region_held3 (fun w' => w'.cell? ⟨g1, o1, none⟩ = some (.string x.key) ∧ w'.cell? ⟨g1, o1 + 1, none⟩ = some (.string x.value)) (first | exact HX.out.block (hX.drew.block g1 hlt1) | exact HX.out.block ((hX.alloc hXs _).drew.block g1 hlt1) | exact HX.out.block (hYY.block g1 hlt1)) ((refine step_append_lies _ (by rfl) _ _ _ (by rfl) w.heap.size 165 i0 _ 2 32 Tryz.underlying118 hi hz0 hz1 hz2 rfl (by decide) _ out.length (flatG PropV.cells out) (by rfl) (HO1.out.1.alloc _).drewn ⟨x1.heap.size, 0, none⟩ 1 1 x.cells (by rfl) rfl (news1P x1 _ _) (one1P _) (by omega) (by unfold maxLen; omega) (by omega) (by simp; omega) (x1.heap.size + 1) (by simp) ?_; intro gn cn y1 hown hgrow hatn hltn; have hYY : Below w.heap.size w y1 := (hX.alloc hXs _).drew.grown hgrow (by simp; omega) (fun j hj => by simp [Value.ownBlock] at hj; omega)))
          have HO2 : Hid (OwnP y1 w.heap.size (.slice (some ⟨gn, 0, none⟩) (out.length + 1) cn) (out ++ [x])) := ⟨by
            have e1 : (out ++ [x]).length = out.length + 1 := by simp
            have e2 : flatG PropV.cells (out ++ [x]) = flatG PropV.cells out ++ x.cells := by rw [flatG_app]; simp [flatG]
            rw [e1, e2]; exact hown, by simp⟩
          have HP2 : Hid (PropsAt w (some ⟨g1, fromP o1 pc 1, none⟩) p) := ⟨by have h2 := HP.out.from (cap := pc) 1 (by simp; omega); simpa using h2⟩
          have HM2 : Hid ((out ++ [x]) ++ mrgP p (y :: q) = mrgP a b) := ⟨by rw [← HM.out, mrgP_left p q ha]; simp⟩
          clear hown hgrow hatn
          go_wp2
          go_roundw
          case rel => exact ⟨p, y :: q, out ++ [x], _, _, pc - 1, qc, rfl, rfl, by omega, by simp; omega, HP2.out, HQ.out, HO2.out, HM2.out, by simp; omega, hYY⟩
          case measure => simp [sliceLenP]
        · go_wp2
          have hsl := fun W => slice_fromP W g2 o2 (q.length + 1) qc 1 1 rfl (by omega)
          have hXs := hX.size
          go_region_held3 (fun w' => w'.cell? ⟨g2, o2, none⟩ = some (.string y.key) ∧ w'.cell? ⟨g2, o2 + 1, none⟩ = some (.string y.value)) (first | exact HY.out.block (hX.drew.block g2 hlt2) | exact HY.out.block ((hX.alloc hXs _).drew.block g2 hlt2) | exact HY.out.block (hYY.block g2 hlt2)) ((refine step_append_lies _ (by rfl) _ _ _ (by rfl) w.heap.size 165 i0 _ 2 32 Tryz.underlying118 hi hz0 hz1 hz2 rfl (by decide) _ out.length (flatG PropV.cells out) (by rfl) (HO1.out.1.alloc _).drewn ⟨x1.heap.size, 0, none⟩ 1 1 y.cells (by rfl) rfl (news1P x1 _ _) (one1P _) (by omega) (by unfold maxLen; omega) (by omega) (by simp; omega) (x1.heap.size + 1) (by simp) ?_; intro gn cn y1 hown hgrow hatn hltn; have hYY : Below w.heap.size w y1 := (hX.alloc hXs _).drew.grown hgrow (by simp; omega) (fun j hj => by simp [Value.ownBlock] at hj; omega)))
          have HO2 : Hid (OwnP y1 w.heap.size (.slice (some ⟨gn, 0, none⟩) (out.length + 1) cn) (out ++ [y])) := ⟨by
            have e1 : (out ++ [y]).length = out.length + 1 := by simp
            have e2 : flatG PropV.cells (out ++ [y]) = flatG PropV.cells out ++ y.cells := by rw [flatG_app]; simp [flatG]
            rw [e1, e2]; exact hown, by simp⟩
          have HQ2 : Hid (PropsAt w (some ⟨g2, fromP o2 qc 1, none⟩) q) := ⟨by have h2 := HQ.out.from (cap := qc) 1 (by simp; omega); simpa using h2⟩
          have HM2 : Hid ((out ++ [y]) ++ mrgP (x :: p) q = mrgP a b) := ⟨by rw [← HM.out, mrgP_right p q ha]; simp⟩
          clear hown hgrow hatn
          go_wp2
          go_roundw
          case rel => exact ⟨x :: p, q, out ++ [y], _, _, pc, qc - 1, rfl, rfl, by simp; omega, by omega, HP.out, HQ2.out, HO2.out, HM2.out, by simp; omega, hYY⟩
          case measure => simp [sliceLenP]
      · obtain ⟨g, cap, rfl, hg1, hg2, hcap, hcm⟩ := HO.out.at
        have HE : Hid ((out ++ p) ++ q = mrgP a b) := ⟨by rw [← HM.out, show q = [] from List.eq_nil_of_length_eq_zero (by omega), mrgP_nil_right]; simp⟩
        have hbs := hbw.size
        go_wp2_with (at_builtin; refine wpList_append_P rfl _ _ rfl w.heap.size _ out rfl HO.out.1 pao p pc rfl (HP.out.stays hbw) (by omega) hbs ?_)
        intro v1 w1 hown1 hgr1 hne1
        have hB1 : Below w.heap.size w w1 := hbw.grown hgr1 hbs (fun j hj => (HO.out.1.lt j hj).1)
        have HO1 : Hid (OwnP w1 w.heap.size v1 (out ++ p)) := ⟨by rw [List.length_append]; exact hown1, hne1⟩
        have hB1s := hB1.size
        clear hown1 hgr1 hne1
        go_wp2_with (at_builtin; refine wpList_append_P rfl _ _ rfl w.heap.size _ (out ++ p) rfl HO1.out.1 qbo q qc rfl (HQ.out.stays hB1) (by simp; omega) hB1s ?_)
        intro v2 w2 hown2 hgr2 hne2
        have hB2 : Below w.heap.size w w2 := hB1.grown hgr2 hB1s (fun j hj => (HO1.out.1.lt j hj).1)
        have HF : Hid (OwnP w2 w.heap.size v2 (mrgP a b)) := ⟨by rw [← HE.out]; simpa using hown2, fun hh => HO1.out.2 (by have := hne2.1 hh; first | exact this | exact this.1)⟩
        clear hown2 hgr2 hne2
        go_wp2
        go_ret
        exact ⟨v2, rfl, HF.out, hB2⟩
    · obtain ⟨g, cap, rfl, hg1, hg2, hcap, hcm⟩ := HO.out.at
      have HE : Hid ((out ++ p) ++ q = mrgP a b) := ⟨by rw [← HM.out, show p = [] from List.eq_nil_of_length_eq_zero (by omega), mrgP_nil_left]; simp⟩
      have hbs := hbw.size
      go_wp2_with (at_builtin; refine wpList_append_P rfl _ _ rfl w.heap.size _ out rfl HO.out.1 pao p pc rfl (HP.out.stays hbw) (by omega) hbs ?_)
      intro v1 w1 hown1 hgr1 hne1
      have hB1 : Below w.heap.size w w1 := hbw.grown hgr1 hbs (fun j hj => (HO.out.1.lt j hj).1)
      have HO1 : Hid (OwnP w1 w.heap.size v1 (out ++ p)) := ⟨by rw [List.length_append]; exact hown1, hne1⟩
      have hB1s := hB1.size
      clear hown1 hgr1 hne1
      go_wp2_with (at_builtin; refine wpList_append_P rfl _ _ rfl w.heap.size _ (out ++ p) rfl HO1.out.1 qbo q qc rfl (HQ.out.stays hB1) (by simp; omega) hB1s ?_)
      intro v2 w2 hown2 hgr2 hne2
      have hB2 : Below w.heap.size w w2 := hB1.grown hgr2 hB1s (fun j hj => (HO1.out.1.lt j hj).1)
      have HF : Hid (OwnP w2 w.heap.size v2 (mrgP a b)) := ⟨by rw [← HE.out]; simpa using hown2, fun hh => HO1.out.2 (by have := hne2.1 hh; first | exact this | exact this.1)⟩
      clear hown2 hgr2 hne2
      go_wp2
      go_ret
      exact ⟨v2, rfl, HF.out, hB2⟩
end Go.Proofs.YtfkgmkcndchkjaaGreatDoor.OpR
namespace Go.Proofs.YtfkgmkcndchkjaaGreatDoor.OpR
open Go.ChangeShapes Go.WideShapes Go.ChangeAt Go.RowKit
set_option linter.unusedVariables false

def ltN (a b : NodG) : Bool := decide (a.id < b.id)
def leN (a b : NodG) : Bool := !ltN b a
def mrgN (a b : List NodG) : List NodG := List.merge a b leN
theorem mrgN_nil_left (b : List NodG) : mrgN [] b = b := by simp [mrgN]
theorem mrgN_nil_right (a : List NodG) : mrgN a [] = a := by simp [mrgN]
theorem mrgN_right {x y : NodG} (a b : List NodG) (h : ltN y x = true) : mrgN (x :: a) (y :: b) = y :: mrgN (x :: a) b := by
  unfold mrgN; rw [List.cons_merge_cons]; simp [leN, h]
theorem mrgN_left {x y : NodG} (a b : List NodG) (h : ltN y x = false) : mrgN (x :: a) (y :: b) = x :: mrgN a (y :: b) := by
  unfold mrgN; rw [List.cons_merge_cons]; simp [leN, h]
theorem mrgN_perm (a b : List NodG) : (mrgN a b).Perm (a ++ b) := List.merge_perm_append leN
theorem mrgN_len (a b : List NodG) : (mrgN a b).length = a.length + b.length := by rw [(mrgN_perm a b).length_eq, List.length_append]
/-- The cells of the nodes of a slice. -/
def NCells (w : World) (ao : Option Addr) (l : List NodG) : Prop := ∀ j (hj : j < l.length), ∃ b off, ao = some ⟨b, off, none⟩ ∧ b < w.heap.size ∧ NodAt w b (off + j * 4) l[j]
theorem NCells.stays {w w' : World} {ao : Option Addr} {l : List NodG} (h : NCells w ao l) (hb : Below w.heap.size w w') : NCells w' ao l := fun j hj => by
  obtain ⟨b, off, e, hlt, ho⟩ := h j hj
  exact ⟨b, off, e, Nat.lt_of_lt_of_le hlt hb.size, ho.block (hb.block b hlt)⟩
theorem NodesAt.cells {w : World} {ao : Option Addr} {l : List NodG} (h : NodesAt w ao l) : NCells w ao l := fun j hj => by
  obtain ⟨b, off, e, hlt, ho, _⟩ := h j hj
  exact ⟨b, off, e, hlt, ho⟩
theorem NCells.nodes {w : World} {ao : Option Addr} {l : List NodG} (h : NCells w ao l) (hp : ∀ n ∈ l, PropsAt w n.pao n.props) : NodesAt w ao l := fun j hj => by
  obtain ⟨b, off, e, hlt, ho⟩ := h j hj
  exact ⟨b, off, e, hlt, ho, hp _ (List.getElem_mem hj)⟩
theorem NCells.at0N {w : World} {b off : Nat} {l : List NodG} (h : NCells w (some ⟨b, off, none⟩) l) {k : Nat} (hk : k < l.length) : NodAt w b (off + k * 4) l[k] := by
  obtain ⟨b', off', e, _, ho⟩ := h k hk
  cases e
  exact ho
theorem NCells.news {w : World} {ad : Addr} {l : List NodG} (h : NCells w (some ad) l) : ∀ j u, (flatG NodG.cells l)[j]? = some u → w.cell? (ad.add j) = some u := by
  intro j u hu
  have hj : j < l.length * 4 := by rw [← flatG_len nod_len]; exact (List.getElem?_eq_some_iff.1 hu).1
  obtain ⟨k, f, rfl, hf⟩ : ∃ k f, j = k * 4 + f ∧ f < 4 := ⟨j / 4, j % 4, by omega, by omega⟩
  have hk : k < l.length := by omega
  rw [flatG_get nod_len l k f hk hf] at hu
  obtain ⟨b', off', e, _, c0, c1, c2, c3⟩ := h k hk
  cases e
  rw [Addr.add_lit]
  match f, hf with
  | 0, _ => exact c0.trans hu
  | 1, _ => exact c1.trans hu
  | 2, _ => exact c2.trans hu
  | 3, _ => exact c3.trans hu
theorem NCells.nil_of {w : World} {l : List NodG} (h : NCells w none l) : l = [] := by
  cases l with
  | nil => rfl
  | cons o r => obtain ⟨b, off, e, _⟩ := h 0 (by simp); cases e
theorem oneN : ∀ (l : List NodG), ∀ u ∈ flatG NodG.cells l, u.oneCell' = true := by
  intro l u hu
  obtain ⟨o, _, ho⟩ := List.mem_flatMap.1 hu
  simp only [NodG.cells, List.mem_cons, List.not_mem_nil, or_false] at ho
  rcases ho with rfl | rfl | rfl | rfl <;> rfl
theorem one1N (o : NodG) : ∀ u ∈ o.cells, u.oneCell' = true := fun u hu => oneN [o] u (by simpa [flatG] using hu)
/-- A row that the call owns, at a place. -/
def OwnN (w : World) (base : Nat) (v : Value) (l : List NodG) : Prop := w.ownsRow base 120 4 v l.length (flatG NodG.cells l) ∧ v ≠ .slice none 0 0
theorem OwnN.at {w : World} {base : Nat} {v : Value} {l : List NodG} (h : OwnN w base v l) : ∃ g cap, v = .slice (some ⟨g, 0, none⟩) l.length cap ∧ base ≤ g ∧ g < w.heap.size ∧ l.length ≤ cap ∧ cap ≤ maxLen := by
  rcases h.1.2 with ⟨e, _⟩ | ⟨g, cap, cur, rfl, hb, hg, hl, hm, hs, ht⟩
  · exact absurd e h.2
  · exact ⟨g, cap, rfl, hb, (Array.getElem?_eq_some_iff.1 hg).1, hl, hm⟩
theorem OwnN.below {w w' : World} {base : Nat} {v : Value} {l : List NodG} (h : OwnN w base v l) (hb : Below w.heap.size w w') : OwnN w' base v l :=
  ⟨h.1.kept (row := none) ⟨hb.os, hb.tape, hb.output, hb.size, fun k hk _ => hb.block k hk⟩ (by cases hv : v.ownBlock <;> simp), h.2⟩
theorem owns_cellsN {w : World} {base : Nat} {ao : Option Addr} {cap : Nat} {l : List NodG} (h : w.ownsRow base 120 4 (.slice ao l.length cap) l.length (flatG NodG.cells l)) : NCells w ao l := by
  rcases h.2 with ⟨e, hn⟩ | ⟨g, cap', cur, e, hb, hg, h1, h2, h3, h4⟩
  · rw [List.eq_nil_of_length_eq_zero hn]
    exact fun j hj => absurd hj (by simp)
  · simp only [Value.slice.injEq] at e
    obtain ⟨rfl, _, _⟩ := e
    intro j hj
    refine ⟨g, 0, rfl, (Array.getElem?_eq_some_iff.1 hg).1, ?_⟩
    have hc := fun f (hf : f < 4) (u : Value) (hu : l[j].cells[f]? = some u) => h.cells rfl (j * 4 + f) u ((flatG_get nod_len l j f hj hf).trans hu)
    simp only [Addr.add_lit] at hc
    exact ⟨hc 0 (by omega) _ rfl, hc 1 (by omega) _ rfl, hc 2 (by omega) _ rfl, hc 3 (by omega) _ rfl⟩
theorem owns_atN {w : World} {base : Nat} {v : Value} {l : List NodG} (h : w.ownsRow base 120 4 v l.length (flatG NodG.cells l)) : ∃ ao c, v = .slice ao l.length c ∧ l.length ≤ c ∧ NCells w ao l := by
  have h' := h
  rcases h.2 with ⟨e, hn⟩ | ⟨g, cap', cur, e, hb, hg, h1, h2, h3, h4⟩
  · have hl : l = [] := List.eq_nil_of_length_eq_zero hn
    subst hl
    exact ⟨none, 0, e, Nat.le_refl _, fun j hj => absurd hj (by simp)⟩
  · rw [e] at h'
    exact ⟨_, cap', e, h1, owns_cellsN h'⟩
/-- Elements appended to a row that the call owns: whatever slice they lie in, nil too. -/
theorem wpList_append_N {ops : Array Oper} {rest : List Oper} {o : Oper} {a : Act} {w : World} {Q : Exit → Act → World → Prop} (hgd : o.guard = none) (s x : Operand)
    (ho : o.op = .call { callee := .builtin .append, args := #[s, x], argTypes := #[70, 70] })
    (base : Nat) (v : Value) (out : List NodG) (hs : a.eval s = v) (hown : w.ownsRow base 120 4 v out.length (flatG NodG.cells out))
    (ao : Option Addr) (m : List NodG) (c : Nat) (hx : a.eval x = .slice ao m.length c) (hA : NCells w ao m)
    (hlen : out.length + m.length ≤ 2200000) (hbase : base ≤ w.heap.size)
    (h : ∀ v' w', w'.ownsRow base 120 4 v' (out ++ m).length (flatG NodG.cells (out ++ m)) → w.grownBy w' v.ownBlock → (v' = .slice none 0 0 ↔ v = .slice none 0 0 ∧ m.length = 0) → wpList Tryz.prog ops Q rest (a.put o.dst v') w') : wpList Tryz.prog ops Q (o :: rest) a w := by
  obtain ⟨i0, hi, hzz⟩ := Option.map_eq_some_iff.1 infoNode
  simp only [Prod.mk.injEq] at hzz
  obtain ⟨hz0, hz1, hz2⟩ := hzz
  have hm : maxLen = 9223372036854775807 := rfl
  cases ao with
  | some ad =>
    refine wpList_append_own _ hgd s x 70 ho base 120 i0 _ 4 56 Tryz.underlying70 hi hz0 hz1 hz2 rfl (by decide) v out.length (flatG NodG.cells out) hs hown ad m.length c (flatG NodG.cells m) hx (flatG_len nod_len m) hA.news (oneN m) (by omega) (by omega) hbase (fun v' w' h1 h2 h3 => h v' w' ?_ h2 h3)
    rw [List.length_append, flatG_app]; exact h1
  | none =>
    obtain rfl := hA.nil_of
    have hrun : (Builtin.append_ #[70, 70] o.type #[v, .slice none 0 c]).run Tryz.prog w = .ok v w := by
      rcases hown.2 with ⟨rfl, _⟩ | ⟨g, cap, cur, rfl, _, _, hnc, _⟩
      · simp [Builtin.append_, run_underlying Tryz.underlying70, sizeOf, typeInfo, hi, Builtin.lenOf, Builtin.firstCells]
      · simp [Builtin.append_, run_underlying Tryz.underlying70, sizeOf, typeInfo, hi, Builtin.lenOf, Builtin.firstCells, loadCells, storeCells, hnc]
    refine wpList_plain hgd fun K hK => ?_
    have hx' : a.eval x = .slice none 0 c := hx
    unfold Oper.wp execOp
    simp only [ho, resolve, invoke, builtin, Sem.run_bind, Sem.run_pure, Result.andThen_ok, List.map_toArray, List.map_cons, List.map_nil, hs, hx', hrun]
    refine hK _ _ (h v w ?_ ⟨rfl, rfl, rfl, Nat.le_refl _, fun _ _ _ => rfl⟩ (by simp))
    rw [List.append_nil]; exact hown
/-- Where a slice from k on begins. -/
def fromN (o cap k : Nat) : Nat := if cap = k then o else o + k * 4
theorem slice_fromN (W : World) (g o len cap k : Nat) (K : Int) (hK : K = (k : Int)) (h : k ≤ len) :
    (Instr.slice 70 (.slice (some ⟨g, o, none⟩) len cap) (some (.int .i64 K)) none none).run Tryz.prog W = .ok (.slice (some ⟨g, fromN o cap k, none⟩) (len - k) (cap - k)) W := by
  subst hK
  have ht : Tryz.prog.underlying 70 = some (.slice (Tryz.prog.elem 70)) := by kernel_rfl
  have hs : ∀ w, (sizeOf (Tryz.prog.elem 70)).run Tryz.prog w = .ok 4 w := fun _ => by kernel_rfl
  rw [run_slice_l W 70 (some ⟨g, o, none⟩) len cap ht .i64 (k : Int) (by omega) (by omega), hs]
  simp only [Result.andThen, sliced, Int.toNat_natCast, Option.map_some, add_plain]
  unfold fromN
  by_cases e : cap = k
  · simp [e]
  · simp [e]
theorem slice_cutN (W : World) (g o len cap k : Nat) (K : Int) (hK : K = (k : Int)) (h : k ≤ cap) :
    (Instr.slice 70 (.slice (some ⟨g, o, none⟩) len cap) none (some (.int .i64 K)) (some (.int .i64 K))).run Tryz.prog W = .ok (.slice (some ⟨g, o, none⟩) k k) W := by
  subst hK
  have ht : Tryz.prog.underlying 70 = some (.slice (Tryz.prog.elem 70)) := by kernel_rfl
  have hs : ∀ w, (sizeOf (Tryz.prog.elem 70)).run Tryz.prog w = .ok 4 w := fun _ => by kernel_rfl
  rw [run_slice_hm W 70 (some ⟨g, o, none⟩) len cap ht .i64 .i64 (k : Int) (k : Int) (by omega) (by omega) (by omega), hs]
  simp [Result.andThen, sliced, Addr.add]
theorem NCells.from {w : World} {g o : Nat} {l : List NodG} (h : NCells w (some ⟨g, o, none⟩) l) {cap : Nat} (k : Nat) (hc : l.length ≤ cap) : NCells w (some ⟨g, fromN o cap k, none⟩) (l.drop k) := fun j hj => by
  have hj' : k + j < l.length := by rw [List.length_drop] at hj; omega
  have ho := h.at0N hj'
  obtain ⟨_, _, e, hlt, _⟩ := h (k + j) hj'
  cases e
  refine ⟨g, fromN o cap k, rfl, hlt, ?_⟩
  rw [List.getElem_drop]
  unfold fromN
  rw [if_neg (by omega), Nat.add_assoc, ← Nat.add_mul]
  exact ho
theorem NCells.take {w : World} {b off : Nat} {l : List NodG} (h : NCells w (some ⟨b, off, none⟩) l) (k : Nat) : NCells w (some ⟨b, off, none⟩) (l.take k) := fun j hj => by
  have hj' : j < l.length := by rw [List.length_take] at hj; omega
  obtain ⟨b', off', e, hlt, ho⟩ := h j hj'
  exact ⟨b', off', e, hlt, by rw [List.getElem_take]; exact ho⟩
theorem make_capN (n : Nat) (N : Int) (hN : N = (n : Int)) (hn : n ≤ 1048576) (w : World) : (Instr.makeSlice 70 (.int .i64 0) (.int .i64 N)).run Tryz.prog w = .ok (.slice (some ⟨w.heap.size, 0, none⟩) 0 n) (w.alloc (.cells (flatG NodG.cells (List.replicate n NodG.none0)).toArray 120)) := by
  subst hN
  obtain ⟨i, hi, hz⟩ := Option.map_eq_some_iff.1 infoNode
  simp only [Prod.mk.injEq] at hz
  obtain ⟨hz, hs, hb⟩ := hz
  have h := run_make (P := Tryz.prog) w 70 120 i _ Tryz.underlying70 hi hz .i64 .i64 0 n (by omega) (by omega) (by rw [hb]; omega) (by omega)
  simp only [Int.toNat_natCast, hs] at h
  rw [← made_cells nod_len (by omega) NodG.none0 n]
  exact h
def aheadFnN : Value := .func (.func 169) #[] #[]
theorem news1N (x : World) (o : NodG) (T : TypeId) : ∀ j u, o.cells[j]? = some u → (x.alloc (.cells #[.int .i64 o.id, .int .i64 o.parent, .string o.name, .slice o.pao o.props.length o.pcap] T)).drew.cell? ((⟨x.heap.size, 0, none⟩ : Addr).add j) = some u := by
  intro j u hu
  rw [Addr.add_lit, Nat.zero_add]
  show (x.alloc (.cells #[.int .i64 o.id, .int .i64 o.parent, .string o.name, .slice o.pao o.props.length o.pcap] T)).cell? ⟨x.heap.size, j, none⟩ = some u
  rw [World.cell?_alloc_at _ _ _ _ rfl]
  simpa [NodG.cells] using hu
def sliceLenN : Value → Nat
  | .slice _ n _ => n
  | _ => 0
set_option maxRecDepth 100000 in
set_option maxHeartbeats 1000000 in
theorem mergedN_any (a b : List NodG) (ao bo : Option Addr) (ca cb : Nat) (w : World) (ha : a.length ≤ 400) (hb : b.length ≤ 400) (hca : a.length ≤ ca) (hcb : b.length ≤ cb) (hA : NCells w ao a) (hB : NCells w bo b) :
    Calls Tryz.prog 184 #[.slice ao a.length ca, .slice bo b.length cb, aheadFnN] w fun e w' => ∃ v, e = .returned v ∧ OwnN w' w.heap.size v (mrgN a b) ∧ Below w.heap.size w w' := by
  unfold aheadFnN
  have hmk := fun W => make_capN (a.length + b.length) ((a.length : Int) + (b.length : Int)) (by omega) (by omega) W
  have HA : Hid (NCells w ao a) := ⟨hA⟩
  have HB : Hid (NCells w bo b) := ⟨hB⟩
  clear hA hB
  have HCa : Hid (a.length ≤ ca) := ⟨hca⟩
  have HCb : Hid (b.length ≤ cb) := ⟨hcb⟩
  clear hca hcb
  have hown0 := World.ownsRow_made (base := w.heap.size) (e := 120) (size := 4) w (flatG NodG.cells (List.replicate (a.length + b.length) NodG.none0)).toArray (a.length + b.length) (Nat.le_refl _) (by unfold maxLen; omega) (by simp [flatG_len nod_len])
  have HO0 : Hid (OwnN (w.alloc (.cells (flatG NodG.cells (List.replicate (a.length + b.length) NodG.none0)).toArray 120)) w.heap.size (.slice (some ⟨w.heap.size, 0, none⟩) 0 (a.length + b.length)) []) := ⟨hown0, by simp⟩
  clear hown0
  obtain ⟨i0, hi, hzz⟩ := Option.map_eq_some_iff.1 infoNode
  simp only [Prod.mk.injEq] at hzz
  obtain ⟨hz0, hz1, hz2⟩ := hzz
  go_enter Tryz.func184, Tryz.ntmps184
  go_wp2
  clear hmk
  go_loopw [0, 1, 7] (fun va vb vo wr => ∃ p q out pao qbo pc qc, va = .slice pao (List.length p) pc ∧ vb = .slice qbo (List.length q) qc ∧ List.length p ≤ pc ∧ List.length q ≤ qc ∧ NCells w pao p ∧ NCells w qbo q ∧ OwnN wr w.heap.size vo out ∧ out ++ mrgN p q = mrgN a b ∧ List.length out + p.length + q.length = a.length + b.length ∧ Below w.heap.size w wr) (fun va vb _ _ => sliceLenN va + sliceLenN vb)
  case atStart => exact ⟨a, b, [], ao, bo, ca, cb, rfl, rfl, HCa.out, HCb.out, HA.out, HB.out, HO0.out, rfl, by simp, (Below.refl _ _).alloc (Nat.le_refl _) _⟩
  case round =>
    obtain ⟨p, q, out, pao, qbo, pc, qc, rfl, rfl, hpc, hqc, hP, hQ, hO, hM, hlen, hbw⟩ := hrel
    have HP : Hid (NCells w pao p) := ⟨hP⟩
    have HQ : Hid (NCells w qbo q) := ⟨hQ⟩
    have HO : Hid (OwnN wr w.heap.size u7 out) := ⟨hO⟩
    have HM : Hid (out ++ mrgN p q = mrgN a b) := ⟨hM⟩
    clear hP hQ hO hM
    by_cases hp : 0 < p.length
    · by_cases hq : 0 < q.length
      · obtain ⟨x, p, rfl⟩ : ∃ x p', p = x :: p' := by cases p with | nil => simp at hp | cons x p' => exact ⟨x, p', rfl⟩
        obtain ⟨y, q, rfl⟩ : ∃ y q', q = y :: q' := by cases q with | nil => simp at hq | cons y q' => exact ⟨y, q', rfl⟩
        obtain ⟨g1, o1, rfl, hlt1, ho1⟩ := HP.out 0 (by simp)
        obtain ⟨g2, o2, rfl, hlt2, ho2⟩ := HQ.out 0 (by simp)
        have hx0 : NodAt w g1 o1 x := by simpa using ho1
        have hy0 : NodAt w g2 o2 y := by simpa using ho2
        have HX : Hid (NodAt w g1 o1 x) := ⟨hx0⟩
        have HY : Hid (NodAt w g2 o2 y) := ⟨hy0⟩
        obtain ⟨c0, c1, c2, c3⟩ := hx0.block (hbw.block g1 hlt1)
        obtain ⟨d0, d1, d2, d3⟩ := hy0.block (hbw.block g2 hlt2)
        have hcall := fun W => nodAhead_any y x W
        unfold NodG.agg at hcall
        simp only [show (decide (y.id < x.id)) = ltN y x from rfl] at hcall
        simp only [List.length_cons] at hlen hpc hqc hp hq ⊢
        clear hx0 hy0 ho1 ho2
        obtain ⟨g, cap, rfl, hg1, hg2, hcap, hcm⟩ := HO.out.at
        go_wp2
        go_region_held3 (fun w' => w'.cell? ⟨g1, o1, none⟩ = some (.int .i64 x.id) ∧ w'.cell? ⟨g1, o1 + 1, none⟩ = some (.int .i64 x.parent) ∧ w'.cell? ⟨g1, o1 + 2, none⟩ = some (.string x.name) ∧ w'.cell? ⟨g1, o1 + 3, none⟩ = some (.slice x.pao x.props.length x.pcap) ∧ w'.cell? ⟨g2, o2, none⟩ = some (.int .i64 y.id) ∧ w'.cell? ⟨g2, o2 + 1, none⟩ = some (.int .i64 y.parent) ∧ w'.cell? ⟨g2, o2 + 2, none⟩ = some (.string y.name) ∧ w'.cell? ⟨g2, o2 + 3, none⟩ = some (.slice y.pao y.props.length y.pcap)) (exact ⟨c0, c1, c2, c3, d0, d1, d2, d3⟩) (first | (go_at_call 169; refine (hcall _).mono ?_; rintro e x1 ⟨rfl, hx1⟩; have hX : Below w.heap.size w x1 := hbw.drew.trans (hx1.mono hbw.size); obtain ⟨c0, c1, c2, c3⟩ := HX.out.block (hX.block g1 hlt1); obtain ⟨d0, d1, d2, d3⟩ := HY.out.block (hX.block g2 hlt2)))
        clear hcall c0 c1 c2 c3 d0 d1 d2 d3
        have HO1 : Hid (OwnN x1 w.heap.size (.slice (some ⟨g, 0, none⟩) out.length cap) out) := ⟨HO.out.below ((Below.refl _ _).drew.trans (hx1.mono (by simp)))⟩
        cases ha : ltN y x
        · go_wp2
          have hsl := fun W => slice_fromN W g1 o1 (p.length + 1) pc 1 1 rfl (by omega)
          have hXs := hX.size
          go_region_held3 (fun w' => w'.cell? ⟨g1, o1, none⟩ = some (.int .i64 x.id) ∧ w'.cell? ⟨g1, o1 + 1, none⟩ = some (.int .i64 x.parent) ∧ w'.cell? ⟨g1, o1 + 2, none⟩ = some (.string x.name) ∧ w'.cell? ⟨g1, o1 + 3, none⟩ = some (.slice x.pao x.props.length x.pcap)) (first | exact HX.out.block (hX.drew.block g1 hlt1) | exact HX.out.block ((hX.alloc hXs _).drew.block g1 hlt1) | exact HX.out.block (hYY.block g1 hlt1)) ((refine step_append_lies _ (by rfl) _ _ _ (by rfl) w.heap.size 120 i0 _ 4 56 Tryz.underlying70 hi hz0 hz1 hz2 rfl (by decide) _ out.length (flatG NodG.cells out) (by rfl) (HO1.out.1.alloc _).drewn ⟨x1.heap.size, 0, none⟩ 1 1 x.cells (by rfl) rfl (news1N x1 _ _) (one1N _) (by omega) (by unfold maxLen; omega) (by omega) (by simp; omega) (x1.heap.size + 1) (by simp) ?_; intro gn cn y1 hown hgrow hatn hltn; have hYY : Below w.heap.size w y1 := (hX.alloc hXs _).drew.grown hgrow (by simp; omega) (fun j hj => by simp [Value.ownBlock] at hj; omega)))
          have HO2 : Hid (OwnN y1 w.heap.size (.slice (some ⟨gn, 0, none⟩) (out.length + 1) cn) (out ++ [x])) := ⟨by
            have e1 : (out ++ [x]).length = out.length + 1 := by simp
            have e2 : flatG NodG.cells (out ++ [x]) = flatG NodG.cells out ++ x.cells := by rw [flatG_app]; simp [flatG]
            rw [e1, e2]; exact hown, by simp⟩
          have HP2 : Hid (NCells w (some ⟨g1, fromN o1 pc 1, none⟩) p) := ⟨by have h2 := HP.out.from (cap := pc) 1 (by simp; omega); simpa using h2⟩
          have HM2 : Hid ((out ++ [x]) ++ mrgN p (y :: q) = mrgN a b) := ⟨by rw [← HM.out, mrgN_left p q ha]; simp⟩
          clear hown hgrow hatn
          go_wp2
          go_roundw
          case rel => exact ⟨p, y :: q, out ++ [x], _, _, pc - 1, qc, rfl, rfl, by omega, by simp; omega, HP2.out, HQ.out, HO2.out, HM2.out, by simp; omega, hYY⟩
          case measure => simp [sliceLenN]
        · go_wp2
          have hsl := fun W => slice_fromN W g2 o2 (q.length + 1) qc 1 1 rfl (by omega)
          have hXs := hX.size
          go_region_held3 (fun w' => w'.cell? ⟨g2, o2, none⟩ = some (.int .i64 y.id) ∧ w'.cell? ⟨g2, o2 + 1, none⟩ = some (.int .i64 y.parent) ∧ w'.cell? ⟨g2, o2 + 2, none⟩ = some (.string y.name) ∧ w'.cell? ⟨g2, o2 + 3, none⟩ = some (.slice y.pao y.props.length y.pcap)) (first | exact HY.out.block (hX.drew.block g2 hlt2) | exact HY.out.block ((hX.alloc hXs _).drew.block g2 hlt2) | exact HY.out.block (hYY.block g2 hlt2)) ((refine step_append_lies _ (by rfl) _ _ _ (by rfl) w.heap.size 120 i0 _ 4 56 Tryz.underlying70 hi hz0 hz1 hz2 rfl (by decide) _ out.length (flatG NodG.cells out) (by rfl) (HO1.out.1.alloc _).drewn ⟨x1.heap.size, 0, none⟩ 1 1 y.cells (by rfl) rfl (news1N x1 _ _) (one1N _) (by omega) (by unfold maxLen; omega) (by omega) (by simp; omega) (x1.heap.size + 1) (by simp) ?_; intro gn cn y1 hown hgrow hatn hltn; have hYY : Below w.heap.size w y1 := (hX.alloc hXs _).drew.grown hgrow (by simp; omega) (fun j hj => by simp [Value.ownBlock] at hj; omega)))
          have HO2 : Hid (OwnN y1 w.heap.size (.slice (some ⟨gn, 0, none⟩) (out.length + 1) cn) (out ++ [y])) := ⟨by
            have e1 : (out ++ [y]).length = out.length + 1 := by simp
            have e2 : flatG NodG.cells (out ++ [y]) = flatG NodG.cells out ++ y.cells := by rw [flatG_app]; simp [flatG]
            rw [e1, e2]; exact hown, by simp⟩
          have HQ2 : Hid (NCells w (some ⟨g2, fromN o2 qc 1, none⟩) q) := ⟨by have h2 := HQ.out.from (cap := qc) 1 (by simp; omega); simpa using h2⟩
          have HM2 : Hid ((out ++ [y]) ++ mrgN (x :: p) q = mrgN a b) := ⟨by rw [← HM.out, mrgN_right p q ha]; simp⟩
          clear hown hgrow hatn
          go_wp2
          go_roundw
          case rel => exact ⟨x :: p, q, out ++ [y], _, _, pc, qc - 1, rfl, rfl, by simp; omega, by omega, HP.out, HQ2.out, HO2.out, HM2.out, by simp; omega, hYY⟩
          case measure => simp [sliceLenN]
      · obtain ⟨g, cap, rfl, hg1, hg2, hcap, hcm⟩ := HO.out.at
        have HE : Hid ((out ++ p) ++ q = mrgN a b) := ⟨by rw [← HM.out, show q = [] from List.eq_nil_of_length_eq_zero (by omega), mrgN_nil_right]; simp⟩
        have hbs := hbw.size
        go_wp2_with (at_builtin; refine wpList_append_N rfl _ _ rfl w.heap.size _ out rfl HO.out.1 pao p pc rfl (HP.out.stays hbw) (by omega) hbs ?_)
        intro v1 w1 hown1 hgr1 hne1
        have hB1 : Below w.heap.size w w1 := hbw.grown hgr1 hbs (fun j hj => (HO.out.1.lt j hj).1)
        have HO1 : Hid (OwnN w1 w.heap.size v1 (out ++ p)) := ⟨by rw [List.length_append]; exact hown1, hne1⟩
        have hB1s := hB1.size
        clear hown1 hgr1 hne1
        go_wp2_with (at_builtin; refine wpList_append_N rfl _ _ rfl w.heap.size _ (out ++ p) rfl HO1.out.1 qbo q qc rfl (HQ.out.stays hB1) (by simp; omega) hB1s ?_)
        intro v2 w2 hown2 hgr2 hne2
        have hB2 : Below w.heap.size w w2 := hB1.grown hgr2 hB1s (fun j hj => (HO1.out.1.lt j hj).1)
        have HF : Hid (OwnN w2 w.heap.size v2 (mrgN a b)) := ⟨by rw [← HE.out]; simpa using hown2, fun hh => HO1.out.2 (by have := hne2.1 hh; first | exact this | exact this.1)⟩
        clear hown2 hgr2 hne2
        go_wp2
        go_ret
        exact ⟨v2, rfl, HF.out, hB2⟩
    · obtain ⟨g, cap, rfl, hg1, hg2, hcap, hcm⟩ := HO.out.at
      have HE : Hid ((out ++ p) ++ q = mrgN a b) := ⟨by rw [← HM.out, show p = [] from List.eq_nil_of_length_eq_zero (by omega), mrgN_nil_left]; simp⟩
      have hbs := hbw.size
      go_wp2_with (at_builtin; refine wpList_append_N rfl _ _ rfl w.heap.size _ out rfl HO.out.1 pao p pc rfl (HP.out.stays hbw) (by omega) hbs ?_)
      intro v1 w1 hown1 hgr1 hne1
      have hB1 : Below w.heap.size w w1 := hbw.grown hgr1 hbs (fun j hj => (HO.out.1.lt j hj).1)
      have HO1 : Hid (OwnN w1 w.heap.size v1 (out ++ p)) := ⟨by rw [List.length_append]; exact hown1, hne1⟩
      have hB1s := hB1.size
      clear hown1 hgr1 hne1
      go_wp2_with (at_builtin; refine wpList_append_N rfl _ _ rfl w.heap.size _ (out ++ p) rfl HO1.out.1 qbo q qc rfl (HQ.out.stays hB1) (by simp; omega) hB1s ?_)
      intro v2 w2 hown2 hgr2 hne2
      have hB2 : Below w.heap.size w w2 := hB1.grown hgr2 hB1s (fun j hj => (HO1.out.1.lt j hj).1)
      have HF : Hid (OwnN w2 w.heap.size v2 (mrgN a b)) := ⟨by rw [← HE.out]; simpa using hown2, fun hh => HO1.out.2 (by have := hne2.1 hh; first | exact this | exact this.1)⟩
      clear hown2 hgr2 hne2
      go_wp2
      go_ret
      exact ⟨v2, rfl, HF.out, hB2⟩
end Go.Proofs.YtfkgmkcndchkjaaGreatDoor.OpR
namespace Go.Proofs.YtfkgmkcndchkjaaGreatDoor.OpR
open Go.ChangeShapes Go.WideShapes Go.ChangeAt Go.RowKit
set_option linter.unusedVariables false

theorem owns_stays2 {w w' : World} {base : Nat} {T : TypeId} {c : Nat} {v : Value} {n : Nat} {xs : List Value} (h : w.ownsRow base T c v n xs) (hb : Below w.heap.size w w') : w'.ownsRow base T c v n xs :=
  h.kept (row := none) ⟨hb.os, hb.tape, hb.output, hb.size, fun k hk _ => hb.block k hk⟩ (by cases hv : v.ownBlock <;> simp)
theorem owns_store {w : World} {base : Nat} {T : TypeId} {c g n cap : Nat} {xs : List Value} (h : w.ownsRow base T c (.slice (some ⟨g, 0, none⟩) n cap) n xs) (p : Nat) (u : Value) :
    (w.setCell ⟨g, p, none⟩ u).ownsRow base T c (.slice (some ⟨g, 0, none⟩) n cap) n (xs.set p u) := by
  rcases h.2 with ⟨e, _⟩ | ⟨g', cap', cur, e, hb, hg, h1, h2, h3, h4⟩
  · cases e
  · simp only [Value.slice.injEq, Option.some.injEq, Addr.mk.injEq] at e
    obtain ⟨⟨rfl, _⟩, _, rfl⟩ := e
    refine ⟨by rw [List.length_set]; exact h.1, .inr ⟨g, cap, (cur.toList.set p u).toArray, rfl, hb, ?_, h1, h2, by simp [h3], ?_⟩⟩
    · have := puts_block (w := w) (g := g) (T := T) [u] cur.toList p w (by simpa using hg)
      exact this
    · rw [List.take_set, h4]
theorem flat_field {α : Type} {cs : α → List Value} {c : Nat} (hc : ∀ x, (cs x).length = c) : ∀ (l : List α) (k f : Nat) (hk : k < l.length) (u : Value) (x : α), f < c → cs x = (cs l[k]).set f u → (flatG cs l).set (k * c + f) u = flatG cs (l.set k x)
  | [], k, f, hk, u, x, hf, h => absurd hk (by simp)
  | y :: r, 0, f, hk, u, x, hf, h => by
    rw [List.set_cons_zero, flatG_cons, flatG_cons, Nat.zero_mul, Nat.zero_add, List.set_append_left _ _ (by rw [hc]; exact hf)]
    congr 1
    exact h.symm
  | y :: r, k + 1, f, hk, u, x, hf, h => by
    rw [List.set_cons_succ, flatG_cons, flatG_cons, flatG_up' hc, flat_field hc r k f (by simpa using hk) u x hf h]
theorem row_frozen {w : World} {base : Nat} {T : TypeId} {c g n cap : Nat} {xs : List Value} (h : w.ownsRow base T c (.slice (some ⟨g, 0, none⟩) n cap) n xs) (p : Nat) : w.frozen? ⟨g, p, none⟩ = false := by
  rcases h.2 with ⟨e, _⟩ | ⟨g', cap', cur, e, hb, hg, h1, h2, h3, h4⟩
  · cases e
  · simp only [Value.slice.injEq, Option.some.injEq, Addr.mk.injEq] at e
    obtain ⟨⟨rfl, _⟩, _, rfl⟩ := e
    simp [World.frozen?, hg]
end Go.Proofs.YtfkgmkcndchkjaaGreatDoor.OpR
namespace Go.Proofs.YtfkgmkcndchkjaaGreatDoor.OpR
open Go.ChangeShapes Go.WideShapes Go.ChangeAt Go.RowKit
set_option linter.unusedVariables false

theorem new2 (W : World) (x : PropV) : ∀ j u, x.cells[j]? = some u → (W.alloc (.cells #[.string x.key, .string x.value] 165)).cell? ((⟨W.heap.size, 0, none⟩ : Addr).add j) = some u := by
  intro j u hu
  rw [Addr.add_lit, Nat.zero_add, World.cell?_alloc_at _ _ _ _ rfl]
  simpa [PropV.cells] using hu
theorem cells2 {w : World} {g : Nat} {v0 v1 : Value} {T : TypeId} (h : w.heap[g]? = some (.cells #[v0, v1] T (0, 0))) : w.cell? ⟨g, 0, none⟩ = some v0 ∧ w.cell? ⟨g, 1, none⟩ = some v1 := by
  exact ⟨by simp [World.cell?, h], by simp [World.cell?, h]⟩
set_option maxRecDepth 100000 in
set_option maxHeartbeats 1000000 in
theorem ownProps_any (l : List PropV) (ao : Option Addr) (cap : Nat) (w : World) (hl : l.length ≤ 1048576) (hA : PropsAt w ao l) (hS : SizedP 1048576 l) :
    Calls Tryz.prog 183 #[.slice ao l.length cap] w fun e w' => ∃ v, e = .returned v ∧ w'.ownsRow w.heap.size 165 2 v l.length (flatG PropV.cells l) ∧ Below w.heap.size w w' := by
  have HA : Hid (PropsAt w ao l) := ⟨hA⟩
  have HS := hide hS
  clear hA hS
  obtain ⟨i0, hi, hz0, hz1, hz2⟩ := info_parts infoProp
  go_enter Tryz.func183, Tryz.ntmps183
  go_wp2
  go_loopw [3, 8] (fun v i wr => ∃ k : Nat, k ≤ l.length ∧ i = .int .i64 k ∧ wr.ownsRow w.heap.size 165 2 v k (flatG PropV.cells (l.take k)) ∧ Below w.heap.size w wr) (fun _ i _ => l.length - (intOf i).toNat)
  case atStart => exact ⟨0, by omega, rfl, World.ownsRow_nil _ _ _ _, Below.refl _ _⟩
  case round =>
    obtain ⟨k, hk, rfl, hO, hb⟩ := hrel
    have HO := hide hO
    clear hO
    by_cases h : k < l.length
    · obtain ⟨b, off, rfl, hlt, ho⟩ := HA.out k h
      obtain ⟨c0, c1⟩ := ho.block (w' := wr) (hb.block b hlt)
      have hsz := HS.out _ (List.getElem_mem h)
      obtain ⟨s, hs⟩ : ∃ s, l[k] = s := ⟨_, rfl⟩
      rw [hs] at c0 c1 hsz
      have HE := hide hs
      have hC0 := fun W => NumR.clone_any s.key W (by omega)
      have hC1 := fun W => NumR.clone_any s.value W (by omega)
      have hi0 : (0 : Int) ≤ (k : Int) := by omega
      have hi1 : (k : Int) < (l.length : Int) := by omega
      have hbs := hb.size
      clear ho hs hsz
      have HB : Hid (Below w.heap.size w wr) := ⟨hb⟩
      have L0 : (wr.alloc (.cells #[.string s.key, .string s.value] 165)).heap[wr.heap.size]? = some (.cells #[.string s.key, .string s.value] 165 (0, 0)) := heap_alloc_new wr _
      have HL0 := hide L0
      have HO0 := hide (HO.out.alloc (.cells #[.string s.key, .string s.value] 165))
      obtain ⟨p0, p1⟩ := cells2 L0
      clear L0
      have m1 : Hid True := ⟨trivial⟩
      have HXB := hide (hb.alloc hb.size (.cells #[.string s.key, .string s.value] 165))
      have hXs : w.heap.size ≤ (wr.alloc (.cells #[.string s.key, .string s.value] 165)).heap.size := by simp; omega
      go_wp2_with fail
      obtain ⟨X, hX⟩ : ∃ X, wr.alloc (.cells #[.string s.key, .string s.value] 165) = X := ⟨_, rfl⟩
      rw [hX] at HL0 HO0 HXB p0 p1 hXs ⊢
      clear hX c0 c1
      have hp0 : X.drew.cell? ⟨wr.heap.size, 0, none⟩ = some (.string s.key) ∧ X.drew.cell? ⟨wr.heap.size, 1, none⟩ = some (.string s.value) := ⟨p0, p1⟩
      go_region_held3 (fun w' => w'.cell? ⟨wr.heap.size, 0, none⟩ = some (.string s.key) ∧ w'.cell? ⟨wr.heap.size, 1, none⟩ = some (.string s.value)) (first | with_reducible exact hp0 | with_reducible exact hp1 | with_reducible exact hp2 | with_reducible exact hp3 | with_reducible exact hp4) (first | (go_at_call 115; clear m1; refine (hC0 _).mono ?_; rintro e x1 ⟨rfl, hx1⟩; have hB1 : Below w.heap.size w x1 := HXB.out.drew.trans (hx1.mono (by simpa using hXs)); have HL1 := hide ((hx1.block _ (Array.getElem?_eq_some_iff.1 HL0.out).1).trans HL0.out); have hp1 := cells2 HL1.out; have HO1 := hide (owns_stays2 HO0.out ((Below.refl _ _).drew.trans hx1)); clear hC0 hp0) | (go_at_call 115; refine (hC1 _).mono ?_; rintro e x2 ⟨rfl, hx2⟩; have hB2 : Below w.heap.size w x2 := hB1.trans (hx2.mono hB1.size); have hB2s := hB2.size; have HL2 := hide ((hx2.block _ (Array.getElem?_eq_some_iff.1 HL1.out).1).trans HL1.out); have hp2 := cells2 HL2.out; have HO2 := hide (owns_stays2 HO1.out hx2); have hp3 := cells2 ((Below.heap_alloc x2 (.cells #[.string s.key, .string s.value] 165) _ (Array.getElem?_eq_some_iff.1 HL2.out).1).trans HL2.out); clear hC1 hp1) | (refine step_append_lies _ (by rfl) _ _ _ (by rfl) w.heap.size 165 i0 _ 2 32 Tryz.underlying118 hi hz0 hz1 hz2 rfl (by decide) _ k (flatG PropV.cells (l.take k)) (by rfl) (HO2.out.alloc _) ⟨x2.heap.size, 0, none⟩ 1 1 s.cells (by rfl) rfl (new2 x2 _) (one1P _) (by omega) (by unfold maxLen; omega) (by omega) (by simp; omega) (x2.heap.size + 1) (by simp) ?_; intro gn cn y1 hown hgrow hatn hltn; have hp4 := cells2 ((hgrow.block wr.heap.size (by have := (Array.getElem?_eq_some_iff.1 HL2.out).1; simp; omega) (fun e => by have := (HO.out.lt _ e.symm).2; omega)).trans ((Below.heap_alloc x2 (.cells #[.string s.key, .string s.value] 165) _ (Array.getElem?_eq_some_iff.1 HL2.out).1).trans HL2.out))))
      have hB4 : Below w.heap.size w y1 := (hB2.alloc hB2s _).grown hgrow (by simp; omega) (fun j hj => (HO.out.lt j hj).1)
      have HO4 : Hid (y1.ownsRow w.heap.size 165 2 (.slice (some ⟨gn, 0, none⟩) (k + 1) cn) (k + 1) (flatG PropV.cells (l.take (k + 1)))) := ⟨by
        rw [List.take_add_one, List.getElem?_eq_getElem h, HE.out, Option.toList_some, flatG_app]
        simpa [flatG] using hown⟩
      clear hown hgrow hp4 hatn
      go_wp2
      go_roundw
      case rel => exact ⟨k + 1, by omega, by go_num, HO4.out, hB4⟩
      case measure => simp [intOf]; omega
    · obtain rfl : k = l.length := by omega
      have HF : Hid (wr.ownsRow w.heap.size 165 2 u3 l.length (flatG PropV.cells l)) := ⟨by have := HO.out; rwa [List.take_length] at this⟩
      go_wp2
      go_ret
      exact ⟨_, rfl, HF.out, hb⟩

/-- Nodes of which the first have been copied. -/
structure Owned (w : World) (base : Nat) (v : Value) (l d : List NodG) : Prop where
  own : TreeOwn w base v d
  bare : d.map NodG.bare = (l.take d.length).map NodG.bare
theorem TreeOwn.blk {w : World} {base : Nat} {v : Value} {l : List NodG} (h : TreeOwn w base v l) {n : NodG} (hn : n ∈ l) {x : Addr} (hx : n.pao = some x) : base ≤ x.block ∧ x.block < w.heap.size := by
  have := (h.props n hn).lt x.block (by rw [hx]; rfl)
  exact this
/-- A node put behind the others: its props in a row of their own, laid since. -/
theorem TreeOwn.snoc {w w1 w2 : World} {base : Nat} {v v2 : Value} {l : List NodG} {n : NodG} (h : TreeOwn w base v l) (hb1 : Below w.heap.size w w1)
    (hp : w1.ownsRow w.heap.size 165 2 (.slice n.pao n.props.length n.pcap) n.props.length (flatG PropV.cells n.props)) (hbase : base ≤ w.heap.size) {o : Obj}
    (hg : (w1.alloc o).grownBy w2 v.ownBlock) (hat : v2.ownBlock = v.ownBlock ∨ v2.ownBlock = some (w1.heap.size + 1))
    (hr : w2.ownsRow base 120 4 v2 (l.length + 1) (flatG NodG.cells (l ++ [n]))) : TreeOwn w2 base v2 (l ++ [n]) := by
  have hlt : ∀ k, v.ownBlock = some k → base ≤ k ∧ k < w.heap.size := h.row.lt
  have hnp : ∀ x, n.pao = some x → w.heap.size ≤ x.block ∧ x.block < w1.heap.size := fun x hx => hp.lt x.block (by rw [hx]; rfl)
  refine ⟨by rw [List.length_append]; exact hr, fun m hm => ?_, ?_, fun m hm x hx => ?_⟩
  · rcases List.mem_append.1 hm with hm | hm
    · refine ((owns_stays2 (h.props m hm) hb1).alloc o).kept hg ?_
      cases hx : m.pao with
      | none => exact .inl rfl
      | some x =>
        refine .inr fun e => h.off m hm x hx ?_
        exact e.symm
    · obtain rfl := List.mem_singleton.1 hm
      refine ((owns_lower hp hbase).alloc o).kept hg ?_
      cases hx : m.pao with
      | none => exact .inl rfl
      | some x =>
        refine .inr fun e => ?_
        have h1 := (hlt x.block e.symm).2
        have h2 := (hnp x hx).1
        omega
  · rw [List.pairwise_append]
    refine ⟨h.apart, by simp, fun a ha b hb x y hx hy => ?_⟩
    obtain rfl := List.mem_singleton.1 hb
    have h1 := (h.blk ha hx).2
    have h2 := (hnp y hy).1
    omega
  · rcases List.mem_append.1 hm with hm | hm
    · rcases hat with e | e
      · rw [e]; exact h.off m hm x hx
      · rw [e]
        have h1 := (h.blk hm hx).2
        have h2 := hb1.size
        simp
        omega
    · obtain rfl := List.mem_singleton.1 hm
      have h2 := hnp x hx
      rcases hat with e | e
      · rw [e]
        intro e'
        have := (hlt x.block e').2
        omega
      · rw [e]
        simp
        omega
end Go.Proofs.YtfkgmkcndchkjaaGreatDoor.OpR
namespace Go.Proofs.YtfkgmkcndchkjaaGreatDoor.OpR
set_option linter.unusedVariables false

theorem bl_irrefl : ∀ a : List UInt8, Op.bytesLess a a = false
  | [] => rfl
  | x :: a => by simp [Op.bytesLess, bl_irrefl a]
theorem bl_trans : ∀ {a b c : List UInt8}, Op.bytesLess a b = true → Op.bytesLess b c = true → Op.bytesLess a c = true
  | a, [], c, h, _ => by cases a <;> simp [Op.bytesLess] at h
  | a, b :: bs, [], _, h => by simp [Op.bytesLess] at h
  | [], b :: bs, c :: cs, _, _ => by simp [Op.bytesLess]
  | a :: aa, b :: bs, c :: cs, h1, h2 => by
    simp only [Op.bytesLess, Bool.or_eq_true, decide_eq_true_eq, Bool.and_eq_true, beq_iff_eq, UInt8.lt_iff_toNat_lt] at *
    rcases h1 with h1 | ⟨rfl, h1⟩ <;> rcases h2 with h2 | ⟨rfl, h2⟩
    · left; omega
    · left; exact h1
    · left; exact h2
    · right; exact ⟨rfl, bl_trans h1 h2⟩
theorem bl_tri : ∀ {a b : List UInt8}, Op.bytesLess a b = false → Op.bytesLess b a = false → a = b
  | [], [], _, _ => rfl
  | [], b :: bs, h, _ => by simp [Op.bytesLess] at h
  | a :: aa, [], _, h => by simp [Op.bytesLess] at h
  | a :: aa, b :: bs, h1, h2 => by
    simp only [Op.bytesLess, Bool.or_eq_false_iff, decide_eq_false_iff_not, Bool.and_eq_false_iff, beq_eq_false_iff_ne, UInt8.lt_iff_toNat_lt] at *
    have e : a = b := UInt8.toNat_inj.1 (by omega)
    subst e
    rw [bl_tri (h1.2.resolve_left (fun h => h rfl)) (h2.2.resolve_left (fun h => h rfl))]
theorem toList_inj {a b : ByteArray} (h : a.toList = b.toList) : a = b := by
  rw [ByteArray.toList_eq, ByteArray.toList_eq] at h
  exact ByteArray.ext (Array.toList_inj.1 h)
theorem kl_irrefl (a : ByteArray) : keyLt a a = false := bl_irrefl _
theorem kl_trans {a b c : ByteArray} (h1 : keyLt a b = true) (h2 : keyLt b c = true) : keyLt a c = true := bl_trans h1 h2
theorem kl_tri {a b : ByteArray} (h1 : keyLt a b = false) (h2 : keyLt b a = false) : a = b := toList_inj (bl_tri h1 h2)
theorem kl_asymm {a b : ByteArray} (h : keyLt a b = true) : keyLt b a = false := by
  cases e : keyLt b a with
  | false => rfl
  | true => have := kl_trans h e; rw [kl_irrefl] at this; cases this
/-- In order, no two alike. -/
def RiseP (l : List PropV) : Prop := l.Pairwise fun a b => keyLt a.key b.key = true
theorem rise_pair {l : List PropV} (h : ∀ i (h : i + 1 < l.length), keyLt l[i].key l[i + 1].key = true) : RiseP l := by
  rw [RiseP, List.pairwise_iff_getElem]
  intro i j hi hj hij
  induction hij with
  | refl => exact h i hj
  | step hm ih => exact kl_trans (ih (by omega)) (h _ hj)
theorem pair_rise {l : List PropV} (h : RiseP l) : ∀ i (h : i + 1 < l.length), keyLt l[i].key l[i + 1].key = true := fun i hi => List.pairwise_iff_getElem.1 h i (i + 1) (by omega) hi (by omega)
/-- A prop set: in its place, in the place of one of its key. -/
def setP (p : PropV) : List PropV → List PropV
  | [] => [p]
  | q :: r => if keyLt q.key p.key then q :: setP p r else if q.key = p.key then p :: r else p :: q :: r
def hasKey (l : List PropV) (k : ByteArray) : Bool := l.any fun q => decide (q.key = k)
theorem setP_len (p : PropV) : ∀ l : List PropV, RiseP l → (setP p l).length = if hasKey l p.key then l.length else l.length + 1
  | [], _ => by simp [setP, hasKey]
  | q :: r, h => by
    have hr := List.pairwise_cons.1 h
    unfold setP
    by_cases h1 : keyLt q.key p.key = true
    · have hne : ¬ q.key = p.key := fun e => by rw [e, kl_irrefl] at h1; cases h1
      have e : hasKey (q :: r) p.key = hasKey r p.key := by simp [hasKey, hne]
      rw [if_pos h1, List.length_cons, setP_len p r hr.2, e]
      split <;> rfl
    · rw [if_neg h1]
      by_cases h2 : q.key = p.key
      · simp [h2, hasKey]
      · rw [if_neg h2]
        have hno : hasKey (q :: r) p.key = false := by
          simp only [hasKey, List.any_cons, h2, decide_false, Bool.false_or]
          rw [List.any_eq_false]
          intro x hx
          simp only [decide_eq_true_eq]
          intro e
          have hqx := hr.1 x hx
          rw [e] at hqx
          exact h1 hqx
        simp [hno]
theorem setP_mem {p : PropV} : ∀ {l : List PropV} {x : PropV}, x ∈ setP p l → x = p ∨ x ∈ l
  | [], x, h => by simp [setP] at h; exact .inl h
  | q :: r, x, h => by
    unfold setP at h
    split at h
    · rcases List.mem_cons.1 h with rfl | h
      · exact .inr (by simp)
      · exact (setP_mem h).imp id (fun h => by simp [h])
    · split at h
      · rcases List.mem_cons.1 h with rfl | h
        · exact .inl rfl
        · exact .inr (by simp [h])
      · rcases List.mem_cons.1 h with rfl | h
        · exact .inl rfl
        · exact .inr h
theorem setP_rise {p : PropV} : ∀ {l : List PropV}, RiseP l → RiseP (setP p l)
  | [], _ => by simp [setP, RiseP]
  | q :: r, h => by
    have hr := List.pairwise_cons.1 h
    unfold setP
    by_cases h1 : keyLt q.key p.key = true
    · rw [if_pos h1]
      refine List.pairwise_cons.2 ⟨fun x hx => ?_, setP_rise hr.2⟩
      rcases setP_mem hx with rfl | hx
      · exact h1
      · exact hr.1 x hx
    · rw [if_neg h1]
      by_cases h2 : q.key = p.key
      · rw [if_pos h2]
        exact List.pairwise_cons.2 ⟨fun x hx => by rw [← h2]; exact hr.1 x hx, hr.2⟩
      · rw [if_neg h2]
        have hpq : keyLt p.key q.key = true := by
          cases e : keyLt p.key q.key with
          | true => rfl
          | false => exact absurd (kl_tri (by simpa using h1) e) h2
        refine List.pairwise_cons.2 ⟨fun x hx => ?_, h⟩
        rcases List.mem_cons.1 hx with rfl | hx
        · exact hpq
        · exact kl_trans hpq (hr.1 x hx)
/-- What impl's way makes of it. -/
theorem setP_mrg (p : PropV) : ∀ {l : List PropV}, RiseP l → mrgP (l.filter fun q => !decide (q.key = p.key)) [p] = setP p l
  | [], _ => by rw [List.filter_nil, mrgP_nil_left]; rfl
  | q :: r, h => by
    have hr := List.pairwise_cons.1 h
    unfold setP
    by_cases h1 : keyLt q.key p.key = true
    · have hne : ¬ q.key = p.key := fun e => by rw [e, kl_irrefl] at h1; cases h1
      rw [if_pos h1, List.filter_cons_of_pos (by simp [hne]), mrgP_left _ _ (show ltP p q = false from kl_asymm h1), setP_mrg p hr.2]
    · rw [if_neg h1]
      have hkeep : (r.filter fun x => !decide (x.key = p.key)) = r ∨ ¬ q.key = p.key := by
        by_cases h2 : q.key = p.key
        · left
          refine List.filter_eq_self.2 fun x hx => ?_
          have hqx := hr.1 x hx
          rw [h2] at hqx
          simp only [Bool.not_eq_true', decide_eq_false_iff_not]
          intro e
          rw [e, kl_irrefl] at hqx
          cases hqx
        · exact .inr h2
      by_cases h2 : q.key = p.key
      · rw [if_pos h2, List.filter_cons_of_neg (by simp [h2])]
        rcases hkeep with e | e
        · rw [e]
          cases r with
          | nil => rw [mrgP_nil_left]
          | cons y s =>
            have : keyLt p.key y.key = true := by rw [← h2]; exact hr.1 y (by simp)
            rw [mrgP_right _ _ (show ltP p y = true from this), mrgP_nil_right]
        · exact absurd h2 e
      · rw [if_neg h2, List.filter_cons_of_pos (by simp [h2])]
        have hpq : keyLt p.key q.key = true := by
          cases e : keyLt p.key q.key with
          | true => rfl
          | false => exact absurd (kl_tri (by simpa using h1) e) h2
        rw [mrgP_right _ _ (show ltP p q = true from hpq), mrgP_nil_right]
        congr 2
        refine List.filter_eq_self.2 fun x hx => ?_
        have hpx := kl_trans hpq (hr.1 x hx)
        simp only [Bool.not_eq_true', decide_eq_false_iff_not]
        intro e
        rw [e, kl_irrefl] at hpx
        cases hpx
/-- What spec's way makes of it: the place of the first key that isn't less. -/
def plP (p : PropV) : List PropV → Nat
  | [] => 0
  | q :: r => if keyLt q.key p.key then plP p r + 1 else 0
theorem setP_at (p : PropV) : ∀ (l : List PropV), setP p l = l.take (plP p l) ++ p :: l.drop (plP p l + if (l[plP p l]?.map fun q => decide (q.key = p.key)) = some true then 1 else 0)
  | [] => by simp [setP, plP]
  | q :: r => by
    unfold setP plP
    by_cases h1 : keyLt q.key p.key = true
    · have e : ∀ c, List.drop (plP p r + 1 + c) (q :: r) = List.drop (plP p r + c) r := fun c => by rw [Nat.add_right_comm, List.drop_succ_cons]
      rw [if_pos h1, if_pos h1, setP_at p r]
      simp only [List.getElem?_cons_succ, List.take_succ_cons, List.cons_append, e]
    · rw [if_neg h1, if_neg h1]
      by_cases h2 : q.key = p.key
      · simp [h2]
      · simp [h2]
theorem propsOk_set {l : List PropV} {p : PropV} (h : PropsOk l) (hp : propOk p = true) : propsOk (setP p l) = (hasKey l p.key || decide (l.length < 20)) := by
  have hr := rise_pair h.2.2
  have hl := setP_len p l hr
  have h20 := h.1
  by_cases hk : hasKey l p.key = true
  · rw [hk, Bool.true_or]
    rw [hk, if_pos rfl] at hl
    exact propsOk_yes ⟨by omega, fun x hx => by rcases setP_mem hx with rfl | hx; exact hp; exact h.2.1 x hx, pair_rise (setP_rise hr)⟩
  · have hk' : hasKey l p.key = false := by simpa using hk
    rw [hk', Bool.false_or]
    rw [hk'] at hl
    simp only [Bool.false_eq_true, if_false] at hl
    by_cases h2 : l.length < 20
    · rw [decide_eq_true h2]
      exact propsOk_yes ⟨by omega, fun x hx => by rcases setP_mem hx with rfl | hx; exact hp; exact h.2.1 x hx, pair_rise (setP_rise hr)⟩
    · rw [decide_eq_false h2]
      exact propsOk_no fun hh => by have := hh.1; omega
end Go.Proofs.YtfkgmkcndchkjaaGreatDoor.OpR
namespace Go.Proofs.YtfkgmkcndchkjaaGreatDoor.OpR
open Go.ChangeShapes Go.WideShapes Go.ChangeAt Go.RowKit
set_option linter.unusedVariables false

def NodG.zero : NodG := ⟨0, 0, ⟨#[]⟩, [], none, 0⟩
/-- An element of the map is held as it is. -/
def rdN (v : Value) : Option (DataW Value × List MemPlace) := some (.held v, [])
def kvD (m : List (Int × NodG)) : DataW Value := .map (m.map fun p => (Lit.int .i64 p.1, DataW.held p.2.agg))
def kvAt (m : List (Int × NodG)) (x : Int) : Option NodG := (m.find? fun p => decide (p.1 = x)).map Prod.snd
def kvIns (x : Int) (n : NodG) : List (Int × NodG) → List (Int × NodG)
  | [] => [(x, n)]
  | q :: r => if x < q.1 then (x, n) :: q :: r else q :: kvIns x n r
def kvDel (m : List (Int × NodG)) (x : Int) : List (Int × NodG) := m.filter fun p => !decide (p.1 = x)
def kvPut (m : List (Int × NodG)) (x : Int) (n : NodG) : List (Int × NodG) := kvIns x n (kvDel m x)
theorem same_int (a b : Int) : (Lit.int .i64 a).sameKey (Lit.int .i64 b) = decide (a = b) := by simp [Lit.sameKey]
theorem kvD_del (m : List (Int × NodG)) (x : Int) : (kvD m).del (.int .i64 x) = kvD (kvDel m x) := by
  unfold kvD kvDel DataW.del
  simp only [List.filter_map, DataW.map.injEq]
  congr 1
  refine List.filter_congr fun p _ => ?_
  simp [same_int]
theorem kvD_ins (x : Int) (n : NodG) : ∀ (m : List (Int × NodG)), DataW.insert (Lit.int .i64 x, DataW.held n.agg) (m.map fun p => (Lit.int .i64 p.1, DataW.held p.2.agg)) = (kvIns x n m).map fun p => (Lit.int .i64 p.1, DataW.held p.2.agg)
  | [] => rfl
  | q :: r => by
    simp only [List.map_cons, DataW.insert, kvIns, Lit.before, decide_eq_true_eq]
    by_cases h : x < q.1
    · rw [if_pos h, if_pos h]; rfl
    · rw [if_neg h, if_neg h, List.map_cons, kvD_ins x n r]
theorem kvD_put (m : List (Int × NodG)) (x : Int) (n : NodG) : (kvD m).put (.int .i64 x) (.held n.agg) = kvD (kvPut m x n) := by
  have h := kvD_del m x
  unfold kvD DataW.del at h
  unfold kvD kvPut DataW.put
  simp only [DataW.map.injEq] at h ⊢
  rw [h, kvD_ins]
theorem kvD_find (m : List (Int × NodG)) (x : Int) : (m.map fun p => (Lit.int .i64 p.1, DataW.held p.2.agg)).find? (fun p => p.1.sameKey (.int .i64 x)) = (m.find? fun p => decide (p.1 = x)).map fun p => (Lit.int .i64 p.1, DataW.held p.2.agg) := by
  induction m with
  | nil => rfl
  | cons q r ih =>
    rw [List.map_cons, List.find?_cons, List.find?_cons, same_int, ih]
    cases decide (q.1 = x) <;> rfl
theorem kvD_some {m : List (Int × NodG)} {x : Int} {n : NodG} (h : kvAt m x = some n) (z : DataW Value) : (kvD m).atKey (.int .i64 x) z = .held n.agg := by
  unfold kvAt at h
  unfold kvD DataW.atKey
  simp only [kvD_find]
  cases e : m.find? (fun p => decide (p.1 = x)) with
  | none => rw [e] at h; cases h
  | some p => rw [e] at h; cases h; rfl
theorem kvD_none {m : List (Int × NodG)} {x : Int} (h : kvAt m x = none) (z : DataW Value) : (kvD m).atKey (.int .i64 x) z = z := by
  unfold kvAt at h
  unfold kvD DataW.atKey
  simp only [kvD_find]
  cases e : m.find? (fun p => decide (p.1 = x)) with
  | none => rfl
  | some p => rw [e] at h; cases h
theorem kvD_has (m : List (Int × NodG)) (x : Int) : Maps.has (kvD m) (.int .i64 x) = (kvAt m x).isSome := by
  cases h : kvAt m x with
  | none => exact Maps.has_false_of_atKey (kvD_none h)
  | some n => exact Maps.has_true_of_atKey (kvD_some h)
theorem kvD_size (m : List (Int × NodG)) : Maps.size (kvD m) = m.length := by simp [Maps.size, kvD]

theorem lawK : Maps.Keyed Tryz.prog 2 := Maps.int_keyed Tryz.underlying2
theorem zeroN (w : World) : (zeroValue 120).run Tryz.prog w = .ok (.agg #[.int .i64 0, .int .i64 0, .string ⟨#[]⟩, .slice none 0 0]) w := by kernel_rfl
/-- The map in block B holds just these. -/
def MapAt (w : World) (B : Nat) (m : List (Int × NodG)) : Prop := w.ownsMap Tryz.prog 2 rdN B m.length (kvD m)
theorem MapAt.of {w : World} {B n : Nat} {m : List (Int × NodG)} (h : w.ownsMap Tryz.prog 2 rdN B n (kvD m)) : MapAt w B m := by
  obtain ⟨es, clock, hb, F, hs, hD⟩ := h
  refine ⟨es, clock, hb, F, ?_, hD⟩
  have := congrArg Maps.size hD
  rw [kvD_size] at this
  simp only [Maps.size, length_sorted, List.length_map, Array.length_toList] at this
  omega
theorem MapAt.lt {w : World} {B : Nat} {m : List (Int × NodG)} (h : MapAt w B m) : B < w.heap.size := World.ownsMap.lt h
theorem MapAt.block {w w' : World} {B : Nat} {m : List (Int × NodG)} (h : MapAt w B m) (e : w'.heap[B]? = w.heap[B]?) : MapAt w' B m := by
  obtain ⟨es, clock, hb, r⟩ := h
  exact ⟨es, clock, e.trans hb, r⟩
theorem MapAt.stays {w w' : World} {B : Nat} {m : List (Int × NodG)} (h : MapAt w B m) (hb : Below w.heap.size w w') : MapAt w' B m := h.block (hb.block B h.lt)
theorem MapAt.below {w w' : World} {B C : Nat} {m : List (Int × NodG)} (h : MapAt w B m) (hb : Below C w w') (hB : B < C) : MapAt w' B m := h.block (hb.block B hB)
theorem MapAt.made (w : World) : MapAt (w.alloc (.map #[] 0)) w.heap.size [] := World.ownsMap_made w _ _ _
theorem key_i64 {x : Int} (h : -9223372036854775808 ≤ x ∧ x ≤ 9223372036854775807) : keyOf Tryz.prog 2 (.int .i64 x) = some (.int .i64 x) :=
  Maps.keyOf_int_mk Tryz.underlying2 (by simp [Lit.wf, IntKind.min, IntKind.max, IntKind.signed, IntKind.bits]; omega)

section
variable (w : World) {ops : Array Oper} {rest : List Oper} {o : Oper} {a : Act} {Q : Exit → Act → World → Prop}
/-- 'n, there := nodes[x]', where there is one. -/
theorem wpList_look_some (hg : o.guard = none) (m x : Operand) (hop : o.op = Op.lookup 138 m x true) (B : Nat) (l : List (Int × NodG)) (hm : a.eval m = .map (some B)) (hM : MapAt w B l)
    (key : Int) (hk : -9223372036854775808 ≤ key ∧ key ≤ 9223372036854775807) (hx : a.eval x = .int .i64 key) (n : NodG) (hn : kvAt l key = some n)
    (hK : wpList Tryz.prog ops Q rest (a.put o.dst (.tuple #[.agg #[.int .i64 n.id, .int .i64 n.parent, .string n.name, .slice n.pao n.props.length n.pcap], .bool true])) w) :
    wpList Tryz.prog ops Q (o :: rest) a w :=
  wpList_lookup_own_ok w hg m x 138 hop 2 120 lawK Tryz.underlying138 rdN (zeroN w) _ [] rfl B l.length (kvD l) hm hM _ _ hx (key_i64 hk) (fun v ps hv => by
    rw [kvD_some hn] at hv
    simp only [rdN, Option.some.injEq, Prod.mk.injEq, DataW.held.injEq] at hv
    obtain ⟨rfl, _⟩ := hv
    rw [kvD_has, hn]
    exact hK)
/-- .. and where there is none. -/
theorem wpList_look_none (hg : o.guard = none) (m x : Operand) (hop : o.op = Op.lookup 138 m x true) (B : Nat) (l : List (Int × NodG)) (hm : a.eval m = .map (some B)) (hM : MapAt w B l)
    (key : Int) (hk : -9223372036854775808 ≤ key ∧ key ≤ 9223372036854775807) (hx : a.eval x = .int .i64 key) (hn : kvAt l key = none)
    (hK : wpList Tryz.prog ops Q rest (a.put o.dst (.tuple #[.agg #[.int .i64 0, .int .i64 0, .string ⟨#[]⟩, .slice none 0 0], .bool false])) w) :
    wpList Tryz.prog ops Q (o :: rest) a w :=
  wpList_lookup_own_ok w hg m x 138 hop 2 120 lawK Tryz.underlying138 rdN (zeroN w) _ [] rfl B l.length (kvD l) hm hM _ _ hx (key_i64 hk) (fun v ps hv => by
    rw [kvD_none hn] at hv
    simp only [rdN, Option.some.injEq, Prod.mk.injEq, DataW.held.injEq] at hv
    obtain ⟨rfl, _⟩ := hv
    rw [kvD_has, hn]
    exact hK)
/-- 'nodes[x] = n'. -/
theorem wpList_put_node (hg : o.guard = none) (m x v : Operand) (hop : o.op = Op.mapUpdate 138 m x v) (B : Nat) (l : List (Int × NodG)) (hm : a.eval m = .map (some B)) (hM : MapAt w B l) (hl : l.length < maxLen)
    (key : Int) (hk : -9223372036854775808 ≤ key ∧ key ≤ 9223372036854775807) (hx : a.eval x = .int .i64 key) (n : NodG) (hv : a.eval v = .agg #[.int .i64 n.id, .int .i64 n.parent, .string n.name, .slice n.pao n.props.length n.pcap])
    (hK : ∀ w', MapAt w' B (kvPut l key n) → w.mapTurned w' B → wpList Tryz.prog ops Q rest (a.put o.dst undef) w') :
    wpList Tryz.prog ops Q (o :: rest) a w :=
  wpList_mapUpdate_in w hg m x v 138 hop 2 120 lawK Tryz.underlying138 rdN B l.length (kvD l) hm hM hl _ _ _ hx hv (key_i64 hk) (.held n.agg) [] rfl (fun w' h1 h2 => by
    rw [kvD_put] at h1
    exact hK w' (MapAt.of h1) h2)
/-- 'delete(nodes, x)'. -/
theorem wpList_del_node (hg : o.guard = none) (m x : Operand) (hop : o.op = Op.call { callee := Callee.builtin Builtin.delete, args := #[m, x], argTypes := #[138, 2] }) (B : Nat) (l : List (Int × NodG)) (hm : a.eval m = .map (some B)) (hM : MapAt w B l)
    (key : Int) (hk : -9223372036854775808 ≤ key ∧ key ≤ 9223372036854775807) (hx : a.eval x = .int .i64 key)
    (hK : ∀ w', MapAt w' B (kvDel l key) → w.mapTurned w' B → wpList Tryz.prog ops Q rest (a.put o.dst (.tuple #[])) w') :
    wpList Tryz.prog ops Q (o :: rest) a w :=
  wpList_delete_own w hg m x 138 2 hop 120 lawK Tryz.underlying138 rdN B l.length (kvD l) hm hM _ _ hx (key_i64 hk) (fun w' h1 h2 => by
    rw [kvD_del] at h1
    exact hK w' (MapAt.of h1) h2)
/-- 'len(nodes)'. -/
theorem wpList_len_nodes (hg : o.guard = none) (m : Operand) (hop : o.op = Op.call { callee := Callee.builtin Builtin.len, args := #[m], argTypes := #[138] }) (B : Nat) (l : List (Int × NodG)) (hm : a.eval m = .map (some B)) (hM : MapAt w B l)
    (hK : wpList Tryz.prog ops Q rest (a.put o.dst (.int .i64 (l.length : Int))) w) :
    wpList Tryz.prog ops Q (o :: rest) a w :=
  wpList_len_own w hg m 138 hop 2 120 Tryz.underlying138 rdN B l.length (kvD l) hm hM (by rw [kvD_size]; exact hK)
end
end Go.Proofs.YtfkgmkcndchkjaaGreatDoor.OpR
namespace Go.Proofs.YtfkgmkcndchkjaaGreatDoor.OpR
open Go.ChangeShapes Go.WideShapes Go.ChangeAt Go.RowKit
set_option linter.unusedVariables false

def In64 (x : Int) : Prop := -9223372036854775808 ≤ x ∧ x ≤ 9223372036854775807
def Rng (l : List NodG) : Prop := ∀ n ∈ l, In64 n.id ∧ In64 n.parent
def kvOf (l : List NodG) : List (Int × NodG) := l.map fun n => (n.id, n)
/-- The parent of what stands at a number. -/
def kvPar (m : List (Int × NodG)) (x : Int) : Option Int := (kvAt m x).map NodG.parent
theorem kvIns_end (x : Int) (n : NodG) : ∀ (m : List (Int × NodG)), (∀ p ∈ m, p.1 < x) → kvIns x n m = m ++ [(x, n)]
  | [], _ => rfl
  | q :: r, h => by
    have := h q (by simp)
    rw [kvIns, if_neg (by omega), kvIns_end x n r (fun p hp => h p (by simp [hp]))]
    rfl
theorem kvPut_end {x : Int} {n : NodG} {m : List (Int × NodG)} (h : ∀ p ∈ m, p.1 < x) : kvPut m x n = m ++ [(x, n)] := by
  have e : kvDel m x = m := List.filter_eq_self.2 fun p hp => by have := h p hp; simp; omega
  unfold kvPut
  rw [e, kvIns_end x n m h]
theorem kvOf_take {l : List NodG} (hr : RisesN l) {k : Nat} (hk : k < l.length) : kvPut (kvOf (l.take k)) l[k].id l[k] = kvOf (l.take (k + 1)) := by
  rw [kvPut_end]
  · unfold kvOf
    rw [List.take_add_one, List.getElem?_eq_getElem hk, Option.toList_some, List.map_append, List.map_cons, List.map_nil]
  · intro p hp
    obtain ⟨n, hn, rfl⟩ := List.mem_map.1 hp
    obtain ⟨j, hj, rfl⟩ := List.getElem_of_mem hn
    rw [List.getElem_take]
    have : j < k := by rw [List.length_take] at hj; omega
    exact rises_lt hr j k this hk
theorem kvAt_of (l : List NodG) (x : Int) : kvAt (kvOf l) x = nodOf l x := by
  unfold kvAt kvOf nodOf
  rw [List.find?_map, Option.map_map]
  show Option.map (fun n => n) (l.find? fun n => decide (n.id = x)) = _
  simp
theorem kvPar_of (l : List NodG) : kvPar (kvOf l) = par l := by
  funext x
  unfold kvPar par
  rw [kvAt_of]
theorem kvOf_len (l : List NodG) : (kvOf l).length = l.length := by simp [kvOf]

theorem turned_below {w w' : World} {a : World} {B C : Nat} (h : Below C a w) (ht : w.mapTurned w' B) (hB : C ≤ B) : Below C a w' := by
  obtain ⟨es, clock, es', clock', hb, rfl⟩ := ht
  exact h.grown (World.mapTurned.grown ⟨es, clock, es', clock', hb, rfl⟩) (Nat.le_of_lt (Nat.lt_of_le_of_lt hB (Array.getElem?_eq_some_iff.1 hb).1)) (fun k hk => by cases hk; exact hB)

/-- A variable that holds the map, and the map. -/
structure MapV (w c : World) (bx B : Nat) (m : List (Int × NodG)) : Prop where
  below : Below w.heap.size w c
  var : c.heap[bx]? = some (.cells #[.map (some B)] 138 (0, 0))
  map : MapAt c B m
theorem MapV.step {w c c' : World} {bx B : Nat} {m : List (Int × NodG)} (h : MapV w c bx B m) (hb : Below c.heap.size c c') : MapV w c' bx B m :=
  ⟨h.below.trans (hb.mono h.below.size), (hb.block _ (Array.getElem?_eq_some_iff.1 h.var).1).trans h.var, h.map.stays hb⟩
theorem MapV.cell {w c : World} {bx B : Nat} {m : List (Int × NodG)} (h : MapV w c bx B m) : c.cell? ⟨bx, 0, none⟩ = some (.map (some B)) := (cells1 h.var).1

set_option maxRecDepth 100000 in
set_option maxHeartbeats 400000 in
theorem nodesOf_any (l : List NodG) (ao : Option Addr) (cap : Nat) (w : World) (hl : l.length ≤ 1048576) (hr : RisesN l) (hg : Rng l) (hA : NodesAt w ao l) :
    Calls Tryz.prog 107 #[.agg #[.slice ao l.length cap]] w fun e w' => ∃ B, e = .returned (.map (some B)) ∧ w.heap.size ≤ B ∧ MapAt w' B (kvOf l) ∧ Below w.heap.size w w' := by
  have HA : Hid (NodesAt w ao l) := ⟨hA⟩
  have HR := hide hr
  have HG := hide hg
  have hmm := @run_makeMap Tryz.prog
  clear hA hr hg
  go_enter Tryz.func107, Tryz.ntmps107
  go_wp2
  clear hmm
  go_loopw [10] (fun i wr => ∃ k : Nat, k ≤ l.length ∧ i = .int .i64 k ∧ MapAt wr (w.heap.size + 1) (kvOf (l.take k)) ∧ Below w.heap.size w wr) (fun i _ => l.length - (intOf i).toNat)
  case atStart =>
    refine ⟨0, by omega, rfl, ?_, ((Below.refl _ _).alloc (Nat.le_refl _) _).alloc (by simp) _⟩
    have := MapAt.made (w.alloc (.cells #[.slice ao l.length cap] 72))
    simpa [kvOf] using this
  case round =>
    obtain ⟨k, hk, rfl, hM, hb⟩ := hrel
    by_cases h : k < l.length
    · obtain ⟨b, off, rfl, hlt, ho, _⟩ := HA.out k h
      obtain ⟨c0, c1, c2, c3⟩ := ho.block (w' := wr) (hb.block b hlt)
      have hi0 : (0 : Int) ≤ (k : Int) := by omega
      have hi1 : (k : Int) < (l.length : Int) := by omega
      have HM := hide hM
      have hlen : (kvOf (l.take k)).length < maxLen := by rw [kvOf_len, List.length_take]; unfold maxLen; omega
      have HL := hide hlen
      clear ho hM hlen
      go_wp2_with (first | (at_mapUpdate; refine wpList_put_node _ rfl _ _ _ rfl (w.heap.size + 1) (kvOf (l.take k)) rfl (HM.out.stays ((Below.refl _ _).alloc (Nat.le_refl _) _)) HL.out l[k].id (HG.out _ (List.getElem_mem h)).1 rfl l[k] rfl ?_; intro w1 hM1 ht1; have HM1 := hide hM1; have hb1 := turned_below (hb.alloc hb.size _) ht1 (by omega); clear hM1 ht1) | go_in)
      go_roundw
      case rel => exact ⟨k + 1, by omega, by go_num, by rw [← kvOf_take HR.out h]; exact HM1.out, hb1⟩
      case measure => simp [intOf]; omega
    · obtain rfl : k = l.length := by omega
      have HM : Hid (MapAt wr (w.heap.size + 1) (kvOf l)) := ⟨by rw [List.take_length] at hM; exact hM⟩
      clear hM
      go_wp2
      go_ret
      exact ⟨_, rfl, by omega, HM.out, hb⟩

set_option maxRecDepth 100000 in
set_option maxHeartbeats 400000 in
theorem above_any (B : Nat) (w : World) :
    Calls Tryz.prog 145 #[.map (some B)] w fun e w' => e = .returned (.func (.func 171) #[] #[.pointer (some ⟨w.heap.size, 0, none⟩)]) ∧ w'.heap[w.heap.size]? = some (.cells #[.map (some B)] 138 (0, 0)) ∧ Below w.heap.size w w' := by
  go_enter Tryz.func145, Tryz.ntmps145
  go_wp2
  go_ret
  exact ⟨rfl, heap_alloc_new w _, (Below.refl _ _).alloc (Nat.le_refl _) _⟩

def RngM (m : List (Int × NodG)) : Prop := ∀ p ∈ m, In64 p.2.parent
theorem RngM.at {m : List (Int × NodG)} (h : RngM m) {x : Int} {n : NodG} (hn : kvAt m x = some n) : In64 n.parent := by
  unfold kvAt at hn
  obtain ⟨p, hp, rfl⟩ := Option.map_eq_some_iff.1 hn
  exact h p (List.mem_of_find?_eq_some hp)
set_option maxRecDepth 100000 in
set_option maxHeartbeats 400000 in
theorem aboveIn_any (m : List (Int × NodG)) (bx B : Nat) (x y : Int) (w : World) (hl : m.length ≤ 1048576) (hg : RngM m) (hx : In64 x) (hv : w.heap[bx]? = some (.cells #[.map (some B)] 138 (0, 0))) (hM : MapAt w B m) :
    Calls Tryz.prog 171 #[.int .i64 x, .int .i64 y, .pointer (some ⟨bx, 0, none⟩)] w fun e w' => e = .returned (.bool (abF (kvPar m) y (m.length + 1) x)) ∧ Below w.heap.size w w' := by
  have HV := hide (MapV.mk (Below.refl w.heap.size w) hv hM)
  have HM := hide hM
  have HG := hide hg
  have hc := (cells1 hv).1
  clear hM hg hv
  go_enter Tryz.func171, Tryz.ntmps171
  go_wp2_with (first | (at_len; refine wpList_len_nodes _ rfl _ rfl B m rfl HM.out ?_) | go_in)
  clear hc
  go_loopw [0, 11] (fun z i wr => ∃ (k : Nat) (v : Int), k ≤ m.length + 1 ∧ z = .int .i64 v ∧ i = .int .i64 k ∧ In64 v ∧ abF (kvPar m) y (m.length + 1) x = abF (kvPar m) y (m.length + 1 - k) v ∧ MapV w wr bx B m) (fun _ i _ => m.length + 1 - (intOf i).toNat)
  case atStart => exact ⟨0, x, by omega, rfl, rfl, hx, rfl, HV.out⟩
  case round =>
    obtain ⟨k, v, hk, rfl, rfl, hv64, he, hmv⟩ := hrel
    have HE := hide he
    have HW := hide hmv
    have H64 := hide hv64
    have hc := hmv.cell
    clear he hmv hv64
    by_cases h : k ≤ m.length
    · have hi1 : (k : Int) < (m.length : Int) + 1 := by omega
      have ek : m.length + 1 - k = (m.length - k) + 1 := by omega
      by_cases hvy : v = y
      · have HF : Hid (abF (kvPar m) y (m.length + 1) x = true) := ⟨by rw [HE.out, ek]; simp [abF, hvy]⟩
        have hvy' : (v == y) = true := beq_iff_eq.2 hvy
        clear ek hvy
        go_wp2
        go_ret
        exact ⟨ret_bool (by rw [HF.out]), HW.out.below⟩
      · have hvy' : (v == y) = false := beq_eq_false_iff_ne.2 hvy
        cases ha : kvAt m v with
        | none =>
          have HF : Hid (abF (kvPar m) y (m.length + 1) x = false) := ⟨by rw [HE.out, ek]; simp [abF, hvy, kvPar, ha]⟩
          have HAt := hide ha
          clear ek hvy ha
          go_wp2_with (first | (at_lookup; refine wpList_look_none _ rfl _ _ rfl B m rfl HW.out.map v H64.out rfl HAt.out ?_) | go_in)
          go_ret
          exact ⟨ret_bool (by rw [HF.out]), HW.out.below.alloc HW.out.below.size _⟩
        | some n =>
          have HF : Hid (abF (kvPar m) y (m.length + 1) x = abF (kvPar m) y (m.length + 1 - (k + 1)) n.parent) := ⟨by
            rw [HE.out, ek]
            simp only [abF, hvy, if_false, kvPar, ha, Option.map_some]
            congr 1; omega⟩
          have HAt := hide ha
          clear ek hvy ha
          go_wp2_with (first | (at_lookup; refine wpList_look_some _ rfl _ _ rfl B m rfl HW.out.map v H64.out rfl n HAt.out ?_) | go_in)
          go_roundw
          case rel => exact ⟨k + 1, n.parent, by omega, rfl, by go_num, HG.out.at HAt.out, HF.out, HW.out.step ((Below.refl _ _).alloc (Nat.le_refl _) _)⟩
          case measure => simp [intOf]; omega
    · obtain rfl : k = m.length + 1 := by omega
      have HF : Hid (abF (kvPar m) y (m.length + 1) x = false) := ⟨by rw [HE.out, Nat.sub_self]; rfl⟩
      go_wp2
      go_ret
      exact ⟨ret_bool (by rw [HF.out]), HW.out.below⟩
end Go.Proofs.YtfkgmkcndchkjaaGreatDoor.OpR
namespace Go.Proofs.YtfkgmkcndchkjaaGreatDoor.OpR

set_option linter.unusedVariables false

theorem ends_step {f : Int → Option Int} {k : Nat} {x y : Int} (h0 : x ≠ 0) (h1 : x ≠ 1) (h : f x = some y) : endsF f (k + 1) x = endsF f k y := by
  simp [endsF, h0, h1, h]
theorem ends_stop {f : Int → Option Int} {k : Nat} {x : Int} (h0 : x ≠ 0) (h1 : x ≠ 1) (h : f x = none) : endsF f k x = false := by
  cases k <;> simp [endsF, h0, h1, h]
theorem ends_low {f : Int → Option Int} {k : Nat} {x : Int} (h : x = 0 ∨ x = 1) : endsF f (k + 1) x = true := by
  simp [endsF, h]
theorem ends_cases {f : Int → Option Int} {k : Nat} {x : Int} (h : endsF f k x = true) : ∃ j, k = j + 1 ∧ ((x = 0 ∨ x = 1) ∨ (x ≠ 0 ∧ x ≠ 1 ∧ ∃ y, f x = some y ∧ endsF f j y = true)) := by
  cases k with
  | zero => simp [endsF] at h
  | succ j =>
    refine ⟨j, rfl, ?_⟩
    by_cases hx : x = 0 ∨ x = 1
    · exact .inl hx
    · refine .inr ⟨fun e => hx (.inl e), fun e => hx (.inr e), ?_⟩
      cases hf : f x with
      | none => rw [ends_stop (fun e => hx (.inl e)) (fun e => hx (.inr e)) hf] at h; cases h
      | some y => exact ⟨y, rfl, by rwa [ends_step (fun e => hx (.inl e)) (fun e => hx (.inr e)) hf] at h⟩
theorem ends_mono {f : Int → Option Int} : ∀ {k j : Nat} {x : Int}, k ≤ j → endsF f k x = true → endsF f j x = true := by
  intro k
  induction k with
  | zero => intro j x _ h; simp [endsF] at h
  | succ k ih =>
    intro j x hj h
    obtain ⟨j, rfl⟩ : ∃ i, j = i + 1 := ⟨j - 1, by omega⟩
    obtain ⟨_, e, hc⟩ := ends_cases h
    rcases hc with hx | ⟨h0, h1, y, hy, hk⟩
    · exact ends_low hx
    · rw [ends_step h0 h1 hy]
      obtain rfl := Nat.succ.inj e
      exact ih (by omega) hk
/-- Another way up that parts from this one at most where this one doesn't come. -/
theorem ends_away {f g : Int → Option Int} {x : Int} (hfg : ∀ z, z ≠ x → f z = g z) : ∀ {k : Nat} {p : Int}, abF f x k p = false → endsF f k p = true → endsF g k p = true := by
  intro k
  induction k with
  | zero => intro p _ h; simp [endsF] at h
  | succ k ih =>
    intro p ha h
    have hpx : p ≠ x := fun e => by simp [abF, e] at ha
    obtain ⟨_, e, hc⟩ := ends_cases h
    obtain rfl := Nat.succ.inj e
    rcases hc with hx | ⟨h0, h1, y, hy, hk⟩
    · exact ends_low hx
    · rw [ends_step h0 h1 (show g p = some y by rw [← hfg p hpx]; exact hy)]
      refine ih ?_ hk
      simpa [abF, hpx, hy] using ha
/-- A way that meets x goes on from x. -/
theorem ends_meets {f : Int → Option Int} (h0 : f 0 = none) (h1 : f 1 = none) {x : Int} : ∀ {k : Nat} {p : Int}, abF f x k p = true → ∀ j, endsF f j p = true → ∃ i, i ≤ j ∧ endsF f i x = true := by
  intro k
  induction k with
  | zero => intro p ha; simp [abF] at ha
  | succ k ih =>
    intro p ha j h
    by_cases hpx : p = x
    · subst hpx; exact ⟨j, Nat.le_refl _, h⟩
    · obtain ⟨i, rfl, hc⟩ := ends_cases h
      rcases hc with hx | ⟨hp0, hp1, y, hy, hk⟩
      · have hn : f p = none := by rcases hx with rfl | rfl <;> assumption
        simp [abF, hpx, hn] at ha
      · have ha' : abF f x k y = true := by simpa [abF, hpx, hy] using ha
        obtain ⟨i', hi, he⟩ := ih ha' i hk
        exact ⟨i', by omega, he⟩
theorem ab_same {f g : Int → Option Int} {x : Int} (hfg : ∀ z, z ≠ x → f z = g z) : ∀ (k : Nat) (p : Int), abF f x k p = abF g x k p
  | 0, _ => rfl
  | k + 1, p => by
    unfold abF
    by_cases hpx : p = x
    · simp [hpx]
    · rw [if_neg hpx, if_neg hpx, hfg p hpx]
      cases g p with
      | none => rfl
      | some y => exact ab_same hfg k y
/-- A way that ends has an end as near as may be. -/
theorem ends_least {f : Int → Option Int} {x : Int} : ∀ {k : Nat}, endsF f k x = true → ∃ j, j ≤ k ∧ endsF f j x = true ∧ ∀ i, i < j → endsF f i x = false := by
  intro k
  induction k with
  | zero => intro h; simp [endsF] at h
  | succ k ih =>
    intro h
    cases e : endsF f k x with
    | true => obtain ⟨j, hj, h1, h2⟩ := ih e; exact ⟨j, by omega, h1, h2⟩
    | false =>
      refine ⟨k + 1, Nat.le_refl _, h, fun i hi => ?_⟩
      cases e' : endsF f i x with
      | false => rfl
      | true => rw [ends_mono (by omega) e'] at e; cases e
theorem filter_less (x : Int) : ∀ (l : List Int), x ∈ l → (l.filter fun z => decide (z ≠ x)).length < l.length := by
  intro l hx
  have := List.length_filter_lt_length_iff_exists (p := fun z => decide (z ≠ x)) (l := l)
  exact this.2 ⟨x, hx, by simp⟩
/-- A way up that ends has no more steps than there are numbers with a parent, and one. -/
theorem ends_short : ∀ (n : Nat) (f : Int → Option Int) (dom : List Int), dom.length ≤ n → (∀ z y, f z = some y → z ∈ dom) → f 0 = none → f 1 = none → ∀ {k : Nat} {x : Int}, endsF f k x = true → endsF f (n + 1) x = true := by
  intro n
  induction n with
  | zero =>
    intro f dom hl hd h0 h1 k x h
    obtain ⟨_, _, hx | ⟨_, _, y, hy, _⟩⟩ := ends_cases h
    · exact ends_low hx
    · have := hd _ _ hy
      rw [List.eq_nil_of_length_eq_zero (Nat.le_zero.1 hl)] at this
      cases this
  | succ n ih =>
    intro f dom hl hd h0 h1 k x h
    obtain ⟨j, _, hj, hleast⟩ := ends_least h
    obtain ⟨i, rfl, hx | ⟨hx0, hx1, y, hy, hk⟩⟩ := ends_cases hj
    · exact ends_low hx
    · rw [ends_step hx0 hx1 hy]
      have hav : abF f x i y = false := by
        cases e : abF f x i y with
        | false => rfl
        | true =>
          obtain ⟨i', hi', he⟩ := ends_meets h0 h1 e i hk
          rw [hleast i' (by omega)] at he
          cases he
      have hfg : ∀ z, z ≠ x → f z = (fun z => if z = x then none else f z) z := fun z hz => by simp [hz]
      have hg := ih (fun z => if z = x then none else f z) (dom.filter fun z => decide (z ≠ x)) (by have := filter_less x dom (hd _ _ hy); omega)
        (fun z y' hz => by
          by_cases e : z = x
          · simp [e] at hz
          · simp only [e, if_false] at hz
            exact List.mem_filter.2 ⟨hd _ _ hz, by simpa using e⟩) (by simp only [h0]; split <;> rfl) (by simp only [h1]; split <;> rfl) (ends_away hfg hav hk)
      have hback : abF (fun z => if z = x then none else f z) x (n + 1) y = false := by
        rw [← ab_same hfg]
        cases e : abF f x (n + 1) y with
        | false => rfl
        | true =>
          obtain ⟨i', hi', he⟩ := ends_meets h0 h1 e i hk
          rw [hleast i' (by omega)] at he
          cases he
      exact ends_away (fun z hz => (hfg z hz).symm) hback hg
/-- A node put below p: from it on the way ends just if p is a place, and p doesn't lie below it. -/
theorem moved_ends {f g : Int → Option Int} {x p : Int} (hx0 : x ≠ 0) (hx1 : x ≠ 1) (h0 : f 0 = none) (h1 : f 1 = none) (hfg : ∀ z, z ≠ x → f z = g z) (hgx : g x = some p) {k : Nat} (hp : endsF f k p = true) (hav : abF f x k p = false) : endsF g (k + 1) x = true := by
  rw [ends_step hx0 hx1 hgx]
  exact ends_away hfg hav hp
theorem moved_loop {f g : Int → Option Int} {x p : Int} (hx0 : x ≠ 0) (hx1 : x ≠ 1) (h0 : f 0 = none) (h1 : f 1 = none) (hfg : ∀ z, z ≠ x → f z = g z) (hgx : g x = some p) {k : Nat} (hav : abF f x k p = true) : ∀ j, endsF g j x = false := by
  intro j
  induction j using Nat.strongRecOn with
  | _ j ih =>
    cases e : endsF g j x with
    | false => rfl
    | true =>
      obtain ⟨i, rfl, hx | ⟨_, _, y, hy, hk⟩⟩ := ends_cases e
      · rcases hx with h | h
        · exact absurd h hx0
        · exact absurd h hx1
      · rw [hgx] at hy
        cases hy
        have hg0 : g 0 = none := by rw [← hfg 0 (fun e => hx0 e.symm)]; exact h0
        have hg1 : g 1 = none := by rw [← hfg 1 (fun e => hx1 e.symm)]; exact h1
        obtain ⟨i', hi', he⟩ := ends_meets hg0 hg1 (by rw [← ab_same hfg]; exact hav) i hk
        rw [ih i' (by omega)] at he
        cases he
theorem moved_none {g : Int → Option Int} {x p : Int} (hx0 : x ≠ 0) (hx1 : x ≠ 1) (hgx : g x = some p) (hp0 : p ≠ 0) (hp1 : p ≠ 1) (hgp : g p = none) (j : Nat) : endsF g j x = false := by
  cases j with
  | zero => rfl
  | succ j => rw [ends_step hx0 hx1 hgx, ends_stop hp0 hp1 hgp]
end Go.Proofs.YtfkgmkcndchkjaaGreatDoor.OpR
namespace Go.Proofs.YtfkgmkcndchkjaaGreatDoor.OpR
open Go.ChangeShapes Go.WideShapes Go.ChangeAt Go.RowKit
set_option linter.unusedVariables false

theorem at_cases (l : List NodG) (x : Int) : (atI l x = -1 ∧ nodOf l x = none) ∨ ∃ (k : Nat) (hk : k < l.length), atI l x = k ∧ nodOf l x = some l[k] ∧ l[k].id = x := by
  unfold atI nodOf
  cases e : l.findIdx? (fun n => decide (n.id = x)) with
  | none =>
    refine .inl ⟨rfl, ?_⟩
    rw [List.find?_eq_none]
    intro n hn
    rw [List.findIdx?_eq_none_iff.1 e n hn]
    simp
  | some k =>
    obtain ⟨hk, h1, h2⟩ := List.findIdx?_eq_some_iff_getElem.1 e
    refine .inr ⟨k, hk, rfl, ?_, by simpa using h1⟩
    rw [List.find?_eq_some_iff_getElem]
    exact ⟨h1, k, hk, rfl, fun j hj => by simpa using h2 j hj⟩
/-- A variable of one cell, behind calls. -/
structure Box1 (w c : World) (g : Nat) (v : Value) (T : TypeId) : Prop where
  below : Below w.heap.size w c
  lies : c.heap[g]? = some (.cells #[v] T (0, 0))
theorem Box1.start (w : World) (v : Value) (T : TypeId) : Box1 w (w.alloc (.cells #[v] T)) w.heap.size v T := ⟨(Below.refl _ _).alloc (Nat.le_refl _) _, heap_alloc_new w _⟩
theorem Box1.step {w c c' : World} {g : Nat} {v : Value} {T : TypeId} (h : Box1 w c g v T) (hb : Below c.heap.size c c') : Box1 w c' g v T :=
  ⟨h.below.trans (hb.mono h.below.size), (hb.block _ (Array.getElem?_eq_some_iff.1 h.lies).1).trans h.lies⟩
theorem Box1.drew {w c : World} {g : Nat} {v : Value} {T : TypeId} (h : Box1 w c g v T) : Box1 w c.drew g v T := ⟨h.below.drew, h.lies⟩
theorem Box1.cell {w c : World} {g : Nat} {v : Value} {T : TypeId} (h : Box1 w c g v T) : c.cell? ⟨g, 0, none⟩ = some v := (cells1 h.lies).1

/-- What is known of the variables of the loop in TreeRight. -/
structure TreeV (w c : World) (n : NodG) (g : Nat) (v : Value) : Prop where
  below : Below w.heap.size w c
  tree : c.heap[w.heap.size]? = some (.cells #[v] 72 (0, 0))
  node : c.heap[g]? = some (.cells #[.int .i64 n.id, .int .i64 n.parent, .string n.name, .slice n.pao n.props.length n.pcap] 120 (0, 0))
theorem TreeV.step {w c c' : World} {n : NodG} {g : Nat} {v : Value} (h : TreeV w c n g v) (hb : Below c.heap.size c c') : TreeV w c' n g v :=
  ⟨h.below.trans (hb.mono h.below.size), (hb.block _ (Array.getElem?_eq_some_iff.1 h.tree).1).trans h.tree, (hb.block _ (Array.getElem?_eq_some_iff.1 h.node).1).trans h.node⟩
theorem TreeV.drew {w c : World} {n : NodG} {g : Nat} {v : Value} (h : TreeV w c n g v) : TreeV w c.drew n g v := ⟨h.below.drew, h.tree, h.node⟩

theorem TreeV.more {w c c' : World} {n : NodG} {g : Nat} {v : Value} (h : TreeV w c n g v) (hq : ∃ q, c' = c.drewN q) : TreeV w c' n g v := by
  obtain ⟨q, rfl⟩ := hq
  exact ⟨h.below.drewN q, h.tree, h.node⟩
theorem to_next {l : List NodG} {k : Nat} {n : NodG} (h1 : ∀ j (hj : j < l.length), j < k → nodOk l l[j] = true) {hk : k < l.length} (hn : l[k] = n) (ho : nodOk l n = true) : ∀ j (hj : j < l.length), j < k + 1 → nodOk l l[j] = true := by
  intro j hj hjk
  rcases Nat.lt_or_ge j k with h' | h'
  · exact h1 j hj h'
  · obtain rfl : j = k := by omega
    rw [hn]; exact ho
theorem rise_next {l : List NodG} {m : Nat} {n : NodG} (h1 : ∀ j (hj : j + 1 < l.length), j + 1 < m + 1 → l[j].id < l[j + 1].id) {hk : m + 1 < l.length} (hn : l[m + 1] = n) (ho : l[m].id < n.id) : ∀ j (hj : j + 1 < l.length), j + 1 < m + 1 + 1 → l[j].id < l[j + 1].id := by
  intro j hj hjk
  rcases Nat.lt_or_ge j m with h' | h'
  · exact h1 j hj (by omega)
  · obtain rfl : j = m := by omega
    rw [hn]; exact ho

end Go.Proofs.YtfkgmkcndchkjaaGreatDoor.OpR
namespace Go.Proofs.YtfkgmkcndchkjaaGreatDoor.OpR
open Go.ChangeShapes Go.WideShapes Go.ChangeAt Go.RowKit
set_option linter.unusedVariables false

/-- A variable of a node, behind calls. -/
structure Box4 (w c : World) (g : Nat) (n : NodG) : Prop where
  below : Below w.heap.size w c
  lies : c.heap[g]? = some (.cells #[.int .i64 n.id, .int .i64 n.parent, .string n.name, .slice n.pao n.props.length n.pcap] 120 (0, 0))
theorem Box4.start (w : World) (n : NodG) : Box4 w (w.alloc (.cells #[.int .i64 n.id, .int .i64 n.parent, .string n.name, .slice n.pao n.props.length n.pcap] 120)) w.heap.size n := ⟨(Below.refl _ _).alloc (Nat.le_refl _) _, heap_alloc_new w _⟩
theorem Box4.step {w c c' : World} {g : Nat} {n : NodG} (h : Box4 w c g n) (hb : Below c.heap.size c c') : Box4 w c' g n :=
  ⟨h.below.trans (hb.mono h.below.size), (hb.block _ (Array.getElem?_eq_some_iff.1 h.lies).1).trans h.lies⟩
def holdsB (m : List (Int × NodG)) (n : NodG) : Bool := isIn n.id 2 1000000 && (NameR.nmB n.name && (propsOk n.props && (abF (kvPar m) 0 (m.length + 1) n.id || abF (kvPar m) 1 (m.length + 1) n.id)))

set_option maxRecDepth 100000 in
set_option maxHeartbeats 1000000 in
theorem holds_any (m : List (Int × NodG)) (B : Nat) (n : NodG) (w : World) (hl : m.length ≤ 1048576) (hg : RngM m) (hx : In64 n.id) (hS : Sized1 1048576 n) (hP : PropsAt w n.pao n.props) (hM : MapAt w B m) :
    Calls Tryz.prog 163 #[.map (some B), n.agg] w fun e w' => e = .returned (.bool (holdsB m n)) ∧ Below w.heap.size w w' := by
  obtain ⟨hS1, hS2, hS3⟩ := hS
  have hNode : ∀ W, Calls Tryz.prog 104 #[.int .i64 n.id] W fun e w' => e = .returned (.bool (isIn n.id 2 1000000)) ∧ w' = W := fun W => (iNode_any n.id W).mono (fun e w' h => ⟨h.1, h.2.symm⟩)
  have hName := fun W => NameR.impl_any n.name W (by unfold maxLen; omega)
  have hpr := fun W (hW : Below w.heap.size w W) => iProps_any n.props n.pao n.pcap W (by unfold maxLen; omega) (hP.stays hW) hS3
  have hab := fun W y bx (hW : Below w.heap.size w W) hv => aboveIn_any m bx B n.id y W hl hg hx hv (hM.stays hW)
  have H4 := hide (Box4.start w n)
  clear hP hM hg hx
  unfold NodG.agg
  cases hq1 : isIn n.id 2 1000000
  · have HF : Hid (holdsB m n = false) := ⟨by simp [holdsB, hq1]⟩
    simp only [hq1] at hNode
    clear hpr hab
    go_enter Tryz.func163, Tryz.ntmps163
    go_wp2_with (first | (go_at_call 104; refine (hNode _).mono ?_; rintro e w1 ⟨rfl, rfl⟩))
    go_ret
    exact ⟨ret_bool (by rw [HF.out]), H4.out.below⟩
  · simp only [hq1] at hNode
    cases hq2 : NameR.nmB n.name
    · have HF : Hid (holdsB m n = false) := ⟨by simp [holdsB, hq2]⟩
      simp only [hq2] at hName
      clear hpr hab
      go_enter Tryz.func163, Tryz.ntmps163
      go_wp2_with (first | (go_at_call 104; refine (hNode _).mono ?_; rintro e w1 ⟨rfl, rfl⟩) | (go_at_call 105; refine (hName _).mono ?_; rintro e w1 ⟨rfl, rfl⟩))
      go_ret
      exact ⟨ret_bool (by rw [HF.out]), H4.out.below⟩
    · simp only [hq2] at hName
      cases hq3 : propsOk n.props
      · have HF : Hid (holdsB m n = false) := ⟨by simp [holdsB, hq3]⟩
        simp only [hq3] at hpr
        clear hab
        go_enter Tryz.func163, Tryz.ntmps163
        go_wp2_with (first | (go_at_call 104; refine (hNode _).mono ?_; rintro e w1 ⟨rfl, rfl⟩) | (go_at_call 105; refine (hName _).mono ?_; rintro e w1 ⟨rfl, rfl⟩) | (go_at_call 180; refine (hpr _ H4.out.below).mono ?_; rintro e w3 ⟨rfl, hb3⟩))
        go_ret
        exact ⟨ret_bool (by rw [HF.out]), (H4.out.step hb3).below⟩
      · simp only [hq3] at hpr
        have HAB := hide hab
        have HF : Hid (holdsB m n = (abF (kvPar m) 0 (m.length + 1) n.id || abF (kvPar m) 1 (m.length + 1) n.id)) := ⟨by simp [holdsB, hq1, hq2, hq3]⟩
        clear hab
        cases hq4 : abF (kvPar m) 0 (m.length + 1) n.id
        · have m1 : Hid True := ⟨trivial⟩
          go_enter Tryz.func163, Tryz.ntmps163
          go_wp2_with (first | (go_at_call 104; refine (hNode _).mono ?_; rintro e w1 ⟨rfl, rfl⟩) | (go_at_call 105; refine (hName _).mono ?_; rintro e w1 ⟨rfl, rfl⟩) | (go_at_call 180; refine (hpr _ H4.out.below).mono ?_; rintro e w3 ⟨rfl, hb3⟩; have H5 := hide (H4.out.step hb3); have HB3 := hide hb3; clear hb3) | (go_at_call 145; refine (above_any B _).mono ?_; rintro e w5 ⟨rfl, hv5, hb5⟩; have hbb5 := H5.out.step hb5; have H6 := hide hbb5; have HV5 := hide hv5; obtain ⟨k0, k1, k2, k3, _, _, _, _⟩ := cells4 hbb5.lies; clear hbb5 hv5 hb5) | (go_at_call 171; clear m1; refine (HAB.out _ 0 _ H6.out.below HV5.out).mono ?_; rintro e w6 ⟨rfl, hb6⟩; rw [hq4]; have hbb6 := H6.out.step hb6; have H7 := hide hbb6; have HV6 := hide ((hb6.block _ (Array.getElem?_eq_some_iff.1 HV5.out).1).trans HV5.out); clear k0 k1 k2 k3; obtain ⟨k0, k1, k2, k3, _, _, _, _⟩ := cells4 hbb6.lies; clear hbb6 hb6) | (go_at_call 171; refine (HAB.out _ 1 _ H7.out.below HV6.out).mono ?_; rintro e w7 ⟨rfl, hb7⟩))
          go_ret
          refine ⟨ret_bool ?_, (H7.out.step hb7).below⟩
          rw [HF.out, hq4]
          simp
        · go_enter Tryz.func163, Tryz.ntmps163
          go_wp2_with (first | (go_at_call 104; refine (hNode _).mono ?_; rintro e w1 ⟨rfl, rfl⟩) | (go_at_call 105; refine (hName _).mono ?_; rintro e w1 ⟨rfl, rfl⟩) | (go_at_call 180; refine (hpr _ H4.out.below).mono ?_; rintro e w3 ⟨rfl, hb3⟩; have H5 := hide (H4.out.step hb3); have HB3 := hide hb3; clear hb3) | (go_at_call 145; refine (above_any B _).mono ?_; rintro e w5 ⟨rfl, hv5, hb5⟩; have hbb5 := H5.out.step hb5; have H6 := hide hbb5; have HV5 := hide hv5; obtain ⟨k0, k1, k2, k3, _, _, _, _⟩ := cells4 hbb5.lies; clear hbb5 hv5 hb5) | (go_at_call 171; refine (HAB.out _ 0 _ H6.out.below HV5.out).mono ?_; rintro e w6 ⟨rfl, hb6⟩; rw [hq4]))
          go_ret
          refine ⟨ret_bool ?_, (H6.out.step hb6).below⟩
          rw [HF.out, hq4]
          simp
end Go.Proofs.YtfkgmkcndchkjaaGreatDoor.OpR
namespace Go.Proofs.YtfkgmkcndchkjaaGreatDoor.OpR
open Go.ChangeShapes Go.WideShapes Go.ChangeAt Go.RowKit
set_option linter.unusedVariables false

structure Box2 (w c : World) (g : Nat) (p : PropV) : Prop where
  below : Below w.heap.size w c
  lies : c.heap[g]? = some (.cells #[.string p.key, .string p.value] 165 (0, 0))
theorem Box2.start (w : World) (p : PropV) : Box2 w (w.alloc (.cells #[.string p.key, .string p.value] 165)) w.heap.size p := ⟨(Below.refl _ _).alloc (Nat.le_refl _) _, heap_alloc_new w _⟩
theorem Box2.step {w c c' : World} {g : Nat} {p : PropV} (h : Box2 w c g p) (hb : Below c.heap.size c c') : Box2 w c' g p :=
  ⟨h.below.trans (hb.mono h.below.size), (hb.block _ (Array.getElem?_eq_some_iff.1 h.lies).1).trans h.lies⟩
theorem Box2.other {w c : World} {g : Nat} {p : PropV} (h : Box2 w c g p) (o : Obj) : Box2 w (c.alloc o) g p := h.step ((Below.refl _ _).alloc (Nat.le_refl _) _)
theorem Box2.grown {w c c' : World} {g : Nat} {p : PropV} {row : Option Nat} (h : Box2 w c g p) (hg : c.grownBy c' row) (hr : ∀ k, row = some k → w.heap.size ≤ k ∧ g < k) : Box2 w c' g p := by
  refine ⟨h.below.grown hg h.below.size (fun k e => (hr k e).1), (hg.block g (Array.getElem?_eq_some_iff.1 h.lies).1 (fun e => ?_)).trans h.lies⟩
  have := (hr g e.symm).2
  omega
theorem one_prop (W : World) (s : PropV) : PropsAt (W.alloc (.cells #[.string s.key, .string s.value] 165)) (some ⟨W.heap.size, 0, none⟩) [s] :=
  InG.propsAt (T := 165) (l := [s]) (heap_alloc_new W _)
def keepP (p : PropV) (l : List PropV) : List PropV := l.filter fun q => !decide (q.key = p.key)
set_option maxRecDepth 100000 in
set_option maxHeartbeats 1000000 in
theorem withProp_any (l : List PropV) (ao : Option Addr) (cap : Nat) (p : PropV) (w : World) (hl : l.length ≤ 20) (hA : PropsAt w ao l) :
    Calls Tryz.prog 162 #[.slice ao l.length cap, p.agg] w fun e w' => ∃ v, e = .returned v ∧ w'.ownsRow w.heap.size 165 2 v (mrgP (keepP p l) [p]).length (flatG PropV.cells (mrgP (keepP p l) [p])) ∧ Below w.heap.size w w' := by
  have HA : Hid (PropsAt w ao l) := ⟨hA⟩
  have H0 := hide (Box2.start w p)
  clear hA
  unfold PropV.agg
  go_enter Tryz.func162, Tryz.ntmps162
  go_wp2
  go_loopw [5, 10] (fun v i wr => ∃ k : Nat, k ≤ l.length ∧ i = .int .i64 k ∧ wr.ownsRow (w.heap.size + 1) 165 2 v (keepP p (l.take k)).length (flatG PropV.cells (keepP p (l.take k))) ∧ Box2 w wr w.heap.size p) (fun _ i _ => l.length - (intOf i).toNat)
  case atStart => exact ⟨0, by omega, rfl, World.ownsRow_nil _ _ _ _, H0.out⟩
  case round =>
    obtain ⟨k, hk, rfl, hO, hbx⟩ := hrel
    have HO := hide hO
    have HB := hide hbx
    obtain ⟨q0, q1⟩ := cells2 hbx.lies
    have hbs := hbx.below.size
    have hgs := (Array.getElem?_eq_some_iff.1 hbx.lies).1
    by_cases h : k < l.length
    · obtain ⟨b, off, rfl, hlt, ho⟩ := HA.out k h
      obtain ⟨c0, c1⟩ := ho.block (w' := wr) (hbx.below.block b hlt)
      obtain ⟨s, hs⟩ : ∃ s, l[k] = s := ⟨_, rfl⟩
      rw [hs] at c0 c1
      have hi0 : (0 : Int) ≤ (k : Int) := by omega
      have hi1 : (k : Int) < (l.length : Int) := by omega
      have htk : l.take (k + 1) = l.take k ++ [s] := by rw [List.take_add_one, List.getElem?_eq_getElem h, hs]; rfl
      have hkl : (keepP p (l.take k)).length ≤ k := Nat.le_trans (List.length_filter_le _ _) (by simp; omega)
      clear ho hs hO hbx
      by_cases he : s.key = p.key
      · have HF : Hid (keepP p (l.take (k + 1)) = keepP p (l.take k)) := ⟨by rw [htk]; simp [keepP, he]⟩
        clear htk
        have HN := hide he
        go_wp2
        go_roundw
        case rel => exact ⟨k + 1, by omega, by go_num, by rw [HF.out]; exact HO.out.alloc _, HB.out.other _⟩
        case measure => simp [intOf]; omega
      · have HF : Hid (keepP p (l.take (k + 1)) = keepP p (l.take k) ++ [s]) := ⟨by rw [htk]; simp [keepP, he]⟩
        have b0 : (s.key.toList == p.key.toList) = false := beq_eq_false_iff_ne.2 fun e => he (toList_inj e)
        have b1 : (s.key.toList != p.key.toList) = true := by rw [bne, b0]; rfl
        clear htk
        go_wp2_with (at_builtin; refine wpList_append_P rfl _ _ rfl (w.heap.size + 1) _ (keepP p (l.take k)) rfl ((HO.out.alloc _).alloc _) (some ⟨wr.heap.size + 1, 0, none⟩) [s] 1 rfl (by have := one_prop (wr.alloc (.cells #[.string s.key, .string s.value] 165)) s; simpa using this) (by simp; omega) (by simp; omega) ?_; intro v1 w1 hown1 hgr1 hne1; clear hne1)
        have hgr : ((wr.alloc (.cells #[.string s.key, .string s.value] 165)).alloc (.cells #[.string s.key, .string s.value] 165)).grownBy w1 u5.ownBlock := hgr1
        go_roundw
        case rel => exact ⟨k + 1, by omega, by go_num, by rw [HF.out]; exact hown1, ((HB.out.other _).other _).grown hgr (fun j hj => by have := (HO.out.lt j hj).1; omega)⟩
        case measure => simp [intOf]; omega
    · obtain rfl : k = l.length := by omega
      rw [List.take_length] at hO
      have hkl : (keepP p l).length ≤ 20 := Nat.le_trans (List.length_filter_le _ _) hl
      obtain ⟨a5, c5, rfl, hc5, hA5⟩ := owns_atP hO
      have HA5 := hide hA5
      clear hO hA5 HO hbx
      go_wp2_with (go_at_call 178; refine (mergedP_any (keepP p l) [p] a5 (some ⟨wr.heap.size, 0, none⟩) c5 1 (wr.alloc (.cells #[.string p.key, .string p.value] 165)) (by omega) (by simp) hc5 (by simp) (HA5.out.stays ((Below.refl _ _).alloc (Nat.le_refl _) _)) (one_prop wr p)).mono ?_; rintro e w4 ⟨v4, rfl, ho4, hb4⟩)
      go_ret
      exact ⟨v4, rfl, owns_lower ho4.1 (by simp; omega), ((HB.out.other _).step hb4).below⟩
end Go.Proofs.YtfkgmkcndchkjaaGreatDoor.OpR
