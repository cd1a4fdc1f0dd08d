/- Nodes with their props as Lean values, and how they lie in memory: a prop has two cells, a node four. -/
import Derived.Test.YtdjjpaleemnikaaOpX
namespace Go.Proofs.Ytdjjpaleemnikaa.OpR
open Go.ChangeShapes Go.WideShapes Go.ChangeAt Go.RowKit
set_option linter.unusedVariables false

structure PropV where
  key : ByteArray
  value : ByteArray
/-- A node: what it is, and where the slice of its props lies. -/
structure NodG where
  id : Int
  parent : Int
  name : ByteArray
  props : List PropV
  pao : Option Addr
  pcap : Nat
def PropV.agg (p : PropV) : Value := .agg #[.string p.key, .string p.value]
def PropV.cells (p : PropV) : List Value := [.string p.key, .string p.value]
def NodG.agg (n : NodG) : Value := .agg #[.int .i64 n.id, .int .i64 n.parent, .string n.name, .slice n.pao n.props.length n.pcap]
def NodG.cells (n : NodG) : List Value := [.int .i64 n.id, .int .i64 n.parent, .string n.name, .slice n.pao n.props.length n.pcap]
def PropAt (w : World) (b p : Nat) (x : PropV) : Prop := w.cell? ⟨b, p, none⟩ = some (.string x.key) ∧ w.cell? ⟨b, p + 1, none⟩ = some (.string x.value)
/-- The props of a slice. -/
def PropsAt (w : World) (ao : Option Addr) (l : List PropV) : Prop := ∀ j (hj : j < l.length), ∃ b off, ao = some ⟨b, off, none⟩ ∧ b < w.heap.size ∧ PropAt w b (off + j * 2) l[j]
def NodAt (w : World) (b p : Nat) (n : NodG) : Prop :=
  w.cell? ⟨b, p, none⟩ = some (.int .i64 n.id) ∧ w.cell? ⟨b, p + 1, none⟩ = some (.int .i64 n.parent) ∧ w.cell? ⟨b, p + 2, none⟩ = some (.string n.name) ∧ w.cell? ⟨b, p + 3, none⟩ = some (.slice n.pao n.props.length n.pcap)
/-- The nodes of a slice, with their props. -/
def NodesAt (w : World) (ao : Option Addr) (l : List NodG) : Prop := ∀ j (hj : j < l.length), ∃ b off, ao = some ⟨b, off, none⟩ ∧ b < w.heap.size ∧ NodAt w b (off + j * 4) l[j] ∧ PropsAt w l[j].pao l[j].props
theorem PropAt.block {w w' : World} {b p : Nat} {x : PropV} (h : PropAt w b p x) (e : w'.heap[b]? = w.heap[b]?) : PropAt w' b p x := by
  unfold PropAt at *
  simpa only [World.cell?, e] using h
theorem NodAt.block {w w' : World} {b p : Nat} {x : NodG} (h : NodAt w b p x) (e : w'.heap[b]? = w.heap[b]?) : NodAt w' b p x := by
  unfold NodAt at *
  simpa only [World.cell?, e] using h
theorem PropsAt.stays {w w' : World} {ao : Option Addr} {l : List PropV} (h : PropsAt w ao l) (hb : Below w.heap.size w w') : PropsAt w' ao l := fun j hj => by
  obtain ⟨b, off, e, hlt, ho⟩ := h j hj
  exact ⟨b, off, e, Nat.lt_of_lt_of_le hlt hb.size, ho.block (hb.block b hlt)⟩
theorem PropsAt.below {B : Nat} {w w' : World} {ao : Option Addr} {l : List PropV} (h : PropsAt w ao l) (hb : Below B w w') (hB : ∀ a, ao = some a → a.block < B) : PropsAt w' ao l := fun j hj => by
  obtain ⟨b, off, e, hlt, ho⟩ := h j hj
  exact ⟨b, off, e, Nat.lt_of_lt_of_le hlt hb.size, ho.block (hb.block b (hB _ e))⟩
theorem PropsAt.grown {w w' : World} {row : Option Nat} {ao : Option Addr} {l : List PropV} (h : PropsAt w ao l) (hg : w.grownBy w' row) (hr : ∀ a, ao = some a → some a.block ≠ row) : PropsAt w' ao l := fun j hj => by
  obtain ⟨b, off, e, hlt, ho⟩ := h j hj
  exact ⟨b, off, e, Nat.lt_of_lt_of_le hlt hg.size, ho.block (hg.block b hlt (hr _ e))⟩
theorem NodesAt.stays {w w' : World} {ao : Option Addr} {l : List NodG} (h : NodesAt w ao l) (hb : Below w.heap.size w w') : NodesAt w' ao l := fun j hj => by
  obtain ⟨b, off, e, hlt, ho, hp⟩ := h j hj
  exact ⟨b, off, e, Nat.lt_of_lt_of_le hlt hb.size, ho.block (hb.block b hlt), hp.stays hb⟩
theorem NodesAt.props {w : World} {ao : Option Addr} {l : List NodG} (h : NodesAt w ao l) : ∀ n ∈ l, PropsAt w n.pao n.props := fun n hn => by
  obtain ⟨j, hj, rfl⟩ := List.getElem_of_mem hn
  obtain ⟨_, _, _, _, _, hp⟩ := h j hj
  exact hp
/-- How long the texts of a node are. -/
def SizedN (m : Nat) (l : List NodG) : Prop := ∀ n ∈ l, n.name.size ≤ m ∧ n.props.length ≤ m ∧ ∀ p ∈ n.props, p.key.size ≤ m ∧ p.value.size ≤ m

/-! ### what is right -/
def keyLt (a b : ByteArray) : Bool := Op.bytesLess a.toList b.toList
/-- What is asked of the i-th prop: its key, its value, and that the one ahead of it is less. -/
def propOk (p : PropV) : Bool := NameR.nmB p.key && decide ((p.value.size : Int) ≤ 40)
def propRise (l : List PropV) (i : Nat) : Bool := if h : i + 1 < l.length then keyLt l[i].key l[i + 1].key else true
def propsOk (l : List PropV) : Bool := decide (l.length ≤ 20) && (l.all propOk && allTo l.length (propRise l))
def PropsOk (l : List PropV) : Prop := l.length ≤ 20 ∧ (∀ p ∈ l, propOk p = true) ∧ ∀ i (h : i + 1 < l.length), keyLt l[i].key l[i + 1].key = true
theorem propRise_iff (l : List PropV) : allTo l.length (propRise l) = true ↔ ∀ i (h : i + 1 < l.length), keyLt l[i].key l[i + 1].key = true := by
  rw [allTo_iff]
  constructor
  · intro h i hi
    have h1 := h i (by omega)
    unfold propRise at h1
    rwa [dif_pos hi] at h1
  · intro h i hi
    unfold propRise
    by_cases h1 : i + 1 < l.length
    · rw [dif_pos h1]; exact h i h1
    · rw [dif_neg h1]
theorem propsOk_iff (l : List PropV) : propsOk l = true ↔ PropsOk l := by
  unfold propsOk PropsOk
  rw [Bool.and_eq_true, Bool.and_eq_true, decide_eq_true_iff, List.all_eq_true, propRise_iff]
theorem propsOk_yes {l : List PropV} (h : PropsOk l) : propsOk l = true := (propsOk_iff l).2 h
theorem propsOk_no {l : List PropV} (h : ¬ PropsOk l) : propsOk l = false := bool_no (propsOk_iff l) h
/-- The first node of a number. -/
def nodOf (l : List NodG) (x : Int) : Option NodG := l.find? fun n => decide (n.id = x)
/-- The parent of a number's node. -/
def par (l : List NodG) (x : Int) : Option Int := (nodOf l x).map NodG.parent
/-- From a number on, parent by parent, within so many steps: is 0 or 1 come to? -/
def endsF (f : Int → Option Int) : Nat → Int → Bool
  | 0, _ => false
  | k + 1, x => if x = 0 ∨ x = 1 then true else match f x with
    | none => false
    | some y => endsF f k y
/-- .. is another number come to? -/
def abF (f : Int → Option Int) (y : Int) : Nat → Int → Bool
  | 0, _ => false
  | k + 1, x => if x = y then true else match f x with
    | none => false
    | some z => abF f y k z
def nodOk (l : List NodG) (n : NodG) : Bool := isIn n.id 2 1000000 && (NameR.nmB n.name && (propsOk n.props && endsF (par l) (l.length + 1) n.id))
def RisesN (l : List NodG) : Prop := ∀ i (h : i + 1 < l.length), l[i].id < l[i + 1].id
def nodRise (l : List NodG) (i : Nat) : Bool := if h : i + 1 < l.length then decide (l[i].id < l[i + 1].id) else true
def risesN (l : List NodG) : Bool := allTo l.length (nodRise l)
theorem risesN_iff (l : List NodG) : risesN l = true ↔ RisesN l := by
  unfold risesN RisesN
  rw [allTo_iff]
  constructor
  · intro h i hi
    have h1 := h i (by omega)
    unfold nodRise at h1
    rw [dif_pos hi] at h1
    simpa using h1
  · intro h i hi
    unfold nodRise
    by_cases h1 : i + 1 < l.length
    · rw [dif_pos h1]; simpa using h i h1
    · rw [dif_neg h1]
theorem risesN_yes {l : List NodG} (h : RisesN l) : risesN l = true := (risesN_iff l).2 h
theorem risesN_no {l : List NodG} (h : ¬ RisesN l) : risesN l = false := bool_no (risesN_iff l) h
def TreeR (l : List NodG) : Prop := l.length ≤ 150 ∧ RisesN l ∧ ∀ n ∈ l, nodOk l n = true
def treeRight (l : List NodG) : Bool := decide (l.length ≤ 150) && (risesN l && l.all (nodOk l))
theorem treeR_iff (l : List NodG) : treeRight l = true ↔ TreeR l := by
  unfold treeRight TreeR
  rw [Bool.and_eq_true, Bool.and_eq_true, decide_eq_true_iff, risesN_iff, List.all_eq_true]
theorem tree_yes {l : List NodG} (h : TreeR l) : treeRight l = true := (treeR_iff l).2 h
theorem tree_no {l : List NodG} (h : ¬ TreeR l) : treeRight l = false := bool_no (treeR_iff l) h

/-! ### by what impl asks -/
theorem rises_lt {l : List NodG} (h : RisesN l) : ∀ i j (hi : i < j) (hj : j < l.length), l[i].id < l[j].id := by
  intro i j hi
  induction hi with
  | refl => intro hj; exact h i hj
  | step hm ih => intro hj; exact Int.lt_trans (ih (by omega)) (h _ hj)
theorem nodOf_some {l : List NodG} {x : Int} {n : NodG} (h : nodOf l x = some n) : n ∈ l ∧ n.id = x := by
  unfold nodOf at h
  exact ⟨List.mem_of_find?_eq_some h, by simpa using List.find?_some h⟩
theorem nodOf_none {l : List NodG} {x : Int} (h : nodOf l x = none) : ∀ n ∈ l, n.id ≠ x := by
  unfold nodOf at h
  simpa using h
theorem nodOf_mem {l : List NodG} (hr : RisesN l) {n : NodG} (h : n ∈ l) : nodOf l n.id = some n := by
  cases e : nodOf l n.id with
  | none => exact absurd rfl (nodOf_none e n h)
  | some m =>
    obtain ⟨hm, hid⟩ := nodOf_some e
    obtain ⟨i, hi, rfl⟩ := List.getElem_of_mem h
    obtain ⟨j, hj, rfl⟩ := List.getElem_of_mem hm
    rcases Nat.lt_trichotomy i j with h' | h' | h'
    · have := rises_lt hr i j h' hj; omega
    · subst h'; rfl
    · have := rises_lt hr j i h' hi; omega
/-- Where no node has the numbers 0 and 1, the way up ends well just if it comes to one of them. -/
theorem ends_ab {f : Int → Option Int} (h0 : f 0 = none) (h1 : f 1 = none) : ∀ k x, endsF f k x = (abF f 0 k x || abF f 1 k x)
  | 0, _ => rfl
  | k + 1, x => by
    unfold endsF abF
    by_cases e0 : x = 0
    · simp [e0]
    · by_cases e1 : x = 1
      · subst e1; simp [h1]
      · rw [if_neg (by omega), if_neg e0, if_neg e1]
        cases f x with
        | none => rfl
        | some n => exact ends_ab h0 h1 k n
theorem no_low {l : List NodG} (h : ∀ n ∈ l, isIn n.id 2 1000000 = true) {x : Int} (hx : x < 2) : nodOf l x = none := by
  cases e : nodOf l x with
  | none => rfl
  | some n =>
    obtain ⟨hm, hid⟩ := nodOf_some e
    have := h n hm
    simp [isIn] at this
    omega
/-- What impl asks of each node. -/
def nodOkI (l : List NodG) (n : NodG) : Bool := isIn n.id 2 1000000 && (NameR.nmB n.name && (propsOk n.props && (abF (par l) 0 (l.length + 1) n.id || abF (par l) 1 (l.length + 1) n.id)))
theorem all_okI (l : List NodG) : l.all (nodOkI l) = l.all (nodOk l) := by
  by_cases h : ∀ n ∈ l, isIn n.id 2 1000000 = true
  · have e := ends_ab (f := par l) (by unfold par; rw [no_low h (x := 0) (by omega)]; rfl) (by unfold par; rw [no_low h (x := 1) (by omega)]; rfl)
    congr 1
    funext n
    unfold nodOkI nodOk
    rw [e]
  · have hno : ∀ f : NodG → Bool, (∀ n, f n = true → isIn n.id 2 1000000 = true) → l.all f = false := fun f hf => by
      refine Bool.eq_false_iff.2 fun ha => h fun n hn => hf n (List.all_eq_true.1 ha n hn)
    rw [hno, hno]
    · intro n hn; unfold nodOk at hn; rw [Bool.and_eq_true] at hn; exact hn.1
    · intro n hn; unfold nodOkI at hn; rw [Bool.and_eq_true] at hn; exact hn.1
end Go.Proofs.Ytdjjpaleemnikaa.OpR
