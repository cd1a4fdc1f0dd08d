/- Proves what the harness' marks do to trees, and what its look at them tells. -/
import Derived.Test.YtmidembbanlleagMkP
namespace Go.Proofs.Ytmidembbanlleag.OpR
open Go.ChangeShapes Go.WideShapes Go.ChangeAt Go.RowKit
set_option linter.unusedVariables false

def mark1 (k : Nat) (n : NodG) : NodG := ⟨(k : Int), (k : Int) + 1, mt (k + 2), markP (k + 3) n.props.length, n.pao, n.pcap⟩
/-- Nodes that are marked from k on. -/
def markN : Nat → List NodG → List NodG
  | _, [] => []
  | k, n :: r => mark1 k n :: markN (k + 3 + 2 * n.props.length) r
def endN : Nat → List NodG → Nat
  | k, [] => k
  | k, n :: r => endN (k + 3 + 2 * n.props.length) r
theorem markN_len : ∀ (k : Nat) (l : List NodG), (markN k l).length = l.length
  | _, [] => rfl
  | k, n :: r => by simp [markN, markN_len]
theorem endN_snoc : ∀ (k : Nat) (l : List NodG) (n : NodG), endN k (l ++ [n]) = endN k l + 3 + 2 * n.props.length
  | _, [], _ => rfl
  | k, m :: r, n => by simp only [List.cons_append, endN]; exact endN_snoc _ r n
theorem endN_take {k : Nat} {l : List NodG} {i : Nat} (h : i < l.length) : endN k (l.take (i + 1)) = endN k (l.take i) + 3 + 2 * l[i].props.length := by
  rw [← List.take_append_getElem h, endN_snoc]
theorem markN_get : ∀ {k : Nat} {l : List NodG} {i : Nat} (h : i < (markN k l).length) (hi : i < l.length), (markN k l)[i] = mark1 (endN k (l.take i)) l[i]
  | k, n :: r, 0, _, _ => rfl
  | k, n :: r, i + 1, h, hi => by
    simp only [markN, List.getElem_cons_succ, List.take_succ_cons, endN]
    exact markN_get _ _
theorem endN_le : ∀ (k : Nat) (l : List NodG), (∀ n ∈ l, n.props.length ≤ 1048576) → endN k l ≤ k + l.length * 2097155
  | k, [], _ => by simp [endN]
  | k, n :: r, h => by
    have h1 := h n (by simp)
    have h2 := endN_le (k + 3 + 2 * n.props.length) r (fun m hm => h m (by simp [hm]))
    simp only [endN, List.length_cons]
    omega
theorem endN_ge : ∀ (k : Nat) (l : List NodG), k ≤ endN k l
  | k, [] => Nat.le_refl _
  | k, n :: r => by have := endN_ge (k + 3 + 2 * n.props.length) r; simp only [endN]; omega

/-- What lies outside of a stretch of blocks is as it was. -/
structure Twixt (base top : Nat) (w w' : World) : Prop where
  os : w'.os = w.os
  tape : w'.tape = w.tape
  output : w'.output = w.output
  size : w.heap.size ≤ w'.heap.size
  block : ∀ k, k < w.heap.size → (k < base ∨ top ≤ k) → w'.heap[k]? = w.heap[k]?
theorem Twixt.refl (base top : Nat) (w : World) : Twixt base top w w := ⟨rfl, rfl, rfl, Nat.le_refl _, fun _ _ _ => rfl⟩
theorem Twixt.trans {base top : Nat} {a b c : World} (h : Twixt base top a b) (k : Twixt base top b c) : Twixt base top a c :=
  ⟨k.os.trans h.os, k.tape.trans h.tape, k.output.trans h.output, Nat.le_trans h.size k.size, fun i hi hn => (k.block i (Nat.lt_of_lt_of_le hi h.size) hn).trans (h.block i hi hn)⟩
theorem Twixt.of {base top : Nat} {a b : World} (h : Below a.heap.size a b) : Twixt base top a b := ⟨h.os, h.tape, h.output, h.size, fun k hk _ => h.block k hk⟩
theorem Twixt.set {base top : Nat} {a b : World} (h : Twixt base top a b) {g : Nat} (h1 : base ≤ g) (h2 : g < top) (p : Nat) (u : Value) : Twixt base top a (b.setCell ⟨g, p, none⟩ u) :=
  ⟨h.os, h.tape, h.output, Nat.le_trans h.size (by simp [World.setCell]), fun k hk hn => (Below.heap_setCell _ _ _ _ (show k ≠ g by omega)).trans (h.block k hk hn)⟩
theorem Twixt.grown {base top : Nat} {a b : World} {r : Option Nat} (h : a.grownBy b r) (hr : ∀ g, r = some g → base ≤ g ∧ g < top) : Twixt base top a b :=
  ⟨h.os, h.tape, h.output, h.size, fun k hk hn => h.block k hk (fun e => by have := hr k e.symm; omega)⟩
/-- The blocks of a tree lie below a number. -/
def Under (top : Nat) (v : Value) (l : List NodG) : Prop := (∀ g, v.ownBlock = some g → g < top) ∧ ∀ n ∈ l, ∀ x, n.pao = some x → x.block < top
theorem set_pairwise {α : Type} {R : α → α → Prop} : ∀ {l : List α} {i : Nat} {x : α} (hi : i < l.length), l.Pairwise R → (∀ y, R y l[i] → R y x) → (∀ y, R l[i] y → R x y) → (l.set i x).Pairwise R
  | y :: r, 0, x, _, h, h1, h2 => by
    obtain ⟨ha, hb⟩ := List.pairwise_cons.1 h
    rw [List.set_cons_zero]
    exact List.pairwise_cons.2 ⟨fun z hz => h2 z (ha z hz), hb⟩
  | y :: r, i + 1, x, hi, h, h1, h2 => by
    obtain ⟨ha, hb⟩ := List.pairwise_cons.1 h
    rw [List.set_cons_succ]
    refine List.pairwise_cons.2 ⟨fun z hz => ?_, set_pairwise (by simpa using hi) hb h1 h2⟩
    rcases List.mem_or_eq_of_mem_set hz with hz | rfl
    · exact ha z hz
    · exact h1 y (ha _ (List.getElem_mem _))
end Go.Proofs.Ytmidembbanlleag.OpR
