/- Proves what the harness' marks do to trees, and what its look at them tells. -/
import Derived.Test.YtcpgkalafkhlgafMkP
namespace Go.Proofs.Ytcpgkalafkhlgaf.OpR
open Go.ChangeShapes Go.WideShapes Go.ChangeAt Go.RowKit
set_option linter.unusedVariables false

def mark1 (k : Nat) (n : NodG) : NodG := ⟨(k : Int), (k : Int) + 1, mt (k + 2), markP (k + 3) n.props.length, n.pao, n.pcap⟩
/-- Nodes that are marked from k on. -/
def markN : Nat → List NodG → List NodG
  | _, [] => []
  | k, n :: r => mark1 k n :: markN (k + 3 + 2 * n.props.length) r
def endN : Nat → List NodG → Nat
  | k, [] => k
  | k, n :: r => endN (k + 3 + 2 * n.props.length) r
theorem markN_len : ∀ (k : Nat) (l : List NodG), (markN k l).length = l.length
  | _, [] => rfl
  | k, n :: r => by simp [markN, markN_len]
theorem endN_snoc : ∀ (k : Nat) (l : List NodG) (n : NodG), endN k (l ++ [n]) = endN k l + 3 + 2 * n.props.length
  | _, [], _ => rfl
  | k, m :: r, n => by simp only [List.cons_append, endN]; exact endN_snoc _ r n
theorem endN_take {k : Nat} {l : List NodG} {i : Nat} (h : i < l.length) : endN k (l.take (i + 1)) = endN k (l.take i) + 3 + 2 * l[i].props.length := by
  rw [← List.take_append_getElem h, endN_snoc]
theorem markN_get : ∀ {k : Nat} {l : List NodG} {i : Nat} (h : i < (markN k l).length) (hi : i < l.length), (markN k l)[i] = mark1 (endN k (l.take i)) l[i]
  | k, n :: r, 0, _, _ => rfl
  | k, n :: r, i + 1, h, hi => by
    simp only [markN, List.getElem_cons_succ, List.take_succ_cons, endN]
    exact markN_get _ _
theorem endN_le : ∀ (k : Nat) (l : List NodG), (∀ n ∈ l, n.props.length ≤ 1048576) → endN k l ≤ k + l.length * 2097155
  | k, [], _ => by simp [endN]
  | k, n :: r, h => by
    have h1 := h n (by simp)
    have h2 := endN_le (k + 3 + 2 * n.props.length) r (fun m hm => h m (by simp [hm]))
    simp only [endN, List.length_cons]
    omega
theorem endN_ge : ∀ (k : Nat) (l : List NodG), k ≤ endN k l
  | k, [] => Nat.le_refl _
  | k, n :: r => by have := endN_ge (k + 3 + 2 * n.props.length) r; simp only [endN]; omega

/-- What lies outside of a stretch of blocks is as it was. -/
structure Twixt (base top : Nat) (w w' : World) : Prop where
  os : w'.os = w.os
  tape : w'.tape = w.tape
  output : w'.output = w.output
  size : w.heap.size ≤ w'.heap.size
  block : ∀ k, k < w.heap.size → (k < base ∨ top ≤ k) → w'.heap[k]? = w.heap[k]?
theorem Twixt.refl (base top : Nat) (w : World) : Twixt base top w w := ⟨rfl, rfl, rfl, Nat.le_refl _, fun _ _ _ => rfl⟩
theorem Twixt.trans {base top : Nat} {a b c : World} (h : Twixt base top a b) (k : Twixt base top b c) : Twixt base top a c :=
  ⟨k.os.trans h.os, k.tape.trans h.tape, k.output.trans h.output, Nat.le_trans h.size k.size, fun i hi hn => (k.block i (Nat.lt_of_lt_of_le hi h.size) hn).trans (h.block i hi hn)⟩
theorem Twixt.of {base top : Nat} {a b : World} (h : Below a.heap.size a b) : Twixt base top a b := ⟨h.os, h.tape, h.output, h.size, fun k hk _ => h.block k hk⟩
theorem Twixt.set {base top : Nat} {a b : World} (h : Twixt base top a b) {g : Nat} (h1 : base ≤ g) (h2 : g < top) (p : Nat) (u : Value) : Twixt base top a (b.setCell ⟨g, p, none⟩ u) :=
  ⟨h.os, h.tape, h.output, Nat.le_trans h.size (by simp [World.setCell]), fun k hk hn => (Below.heap_setCell _ _ _ _ (show k ≠ g by omega)).trans (h.block k hk hn)⟩
theorem Twixt.grown {base top : Nat} {a b : World} {r : Option Nat} (h : a.grownBy b r) (hr : ∀ g, r = some g → base ≤ g ∧ g < top) : Twixt base top a b :=
  ⟨h.os, h.tape, h.output, h.size, fun k hk hn => h.block k hk (fun e => by have := hr k e.symm; omega)⟩
/-- The blocks of a tree lie below a number. -/
def Under (top : Nat) (v : Value) (l : List NodG) : Prop := (∀ g, v.ownBlock = some g → g < top) ∧ ∀ n ∈ l, ∀ x, n.pao = some x → x.block < top
theorem TreeOwn.under {w : World} {base : Nat} {v : Value} {l : List NodG} (h : TreeOwn w base v l) : Under w.heap.size v l :=
  ⟨fun g e => (h.row.lt g e).2, fun n hn x hx => ((h.props n hn).lt x.block (by rw [hx]; rfl)).2⟩

theorem set_pairwise {α : Type} {R : α → α → Prop} : ∀ {l : List α} {i : Nat} {x : α} (hi : i < l.length), l.Pairwise R → (∀ y, R y l[i] → R y x) → (∀ y, R l[i] y → R x y) → (l.set i x).Pairwise R
  | y :: r, 0, x, _, h, h1, h2 => by
    obtain ⟨ha, hb⟩ := List.pairwise_cons.1 h
    rw [List.set_cons_zero]
    exact List.pairwise_cons.2 ⟨fun z hz => h2 z (ha z hz), hb⟩
  | y :: r, i + 1, x, hi, h, h1, h2 => by
    obtain ⟨ha, hb⟩ := List.pairwise_cons.1 h
    rw [List.set_cons_succ]
    refine List.pairwise_cons.2 ⟨fun z hz => ?_, set_pairwise (by simpa using hi) hb h1 h2⟩
    rcases List.mem_or_eq_of_mem_set hz with hz | rfl
    · exact ha z hz
    · exact h1 y (ha _ (List.getElem_mem _))
/-- A node of a tree stored anew in a field that is no props. -/
theorem TreeOwn.field {w : World} {base g cap : Nat} {l : List NodG} (h : TreeOwn w base (.slice (some ⟨g, 0, none⟩) l.length cap) l) {j f : Nat} (hj : j < l.length) (hf : f < 4) (u : Value) (x : NodG) (hx : x.cells = l[j].cells.set f u) (hp : x.pao = l[j].pao) (hq : x.props = l[j].props) (hr : x.pcap = l[j].pcap) :
    TreeOwn (w.setCell ⟨g, j * 4 + f, none⟩ u) base (.slice (some ⟨g, 0, none⟩) (l.set j x).length cap) (l.set j x) := by
  have hoff : ∀ n ∈ l.set j x, ∀ y, n.pao = some y → g ≠ y.block := fun n hn y hy => by
    have hh : ∀ n ∈ l, ∀ y, n.pao = some y → g ≠ y.block := fun n hn y hy e => h.off n hn y hy (by rw [← e]; rfl)
    rcases List.mem_or_eq_of_mem_set hn with hn | rfl
    · exact hh n hn y hy
    · exact hh l[j] (List.getElem_mem hj) y (by rw [← hp]; exact hy)
  refine ⟨?_, fun n hn => ?_, ?_, fun n hn y hy e => hoff n hn y hy (Option.some.inj e)⟩
  · have := owns_store h.row (j * 4 + f) u
    rw [flat_field nod_len l j f hj u x hf hx] at this
    rw [List.length_set]; exact this
  · have hin : w.ownsRow base 64 2 (.slice n.pao n.props.length n.pcap) n.props.length (flatG PropV.cells n.props) := by
      rcases List.mem_or_eq_of_mem_set hn with hn | rfl
      · exact h.props n hn
      · rw [hp, hq, hr]; exact h.props _ (List.getElem_mem hj)
    refine hin.kept (row := some g) ⟨rfl, rfl, rfl, by simp [World.setCell], fun k hk hne => Below.heap_setCell _ _ _ _ (fun e => hne (by rw [e]))⟩ ?_
    cases hpa : n.pao with
    | none => exact .inl rfl
    | some y => exact .inr (fun e => hoff n hn y hpa (Option.some.inj e).symm)
  · exact set_pairwise hj h.apart (fun y hy a b ha hb => hy a b ha (by rw [← hp]; exact hb)) (fun y hy a b ha hb => hy a b (by rw [← hp]; exact ha) hb)
/-- The props of a node stored anew, where they lie. -/
theorem TreeOwn.turned {w w' : World} {base g cap : Nat} {l : List NodG} (h : TreeOwn w base (.slice (some ⟨g, 0, none⟩) l.length cap) l) {j : Nat} (hj : j < l.length) (n : NodG) (hn : l[j] = n) (ps : List PropV) (hps : ps.length = n.props.length)
    (hg : w.grownBy w' (Value.slice n.pao n.props.length n.pcap).ownBlock) (ho : w'.ownsRow base 64 2 (.slice n.pao n.props.length n.pcap) n.props.length (flatG PropV.cells ps)) :
    TreeOwn w' base (.slice (some ⟨g, 0, none⟩) (l.set j ⟨n.id, n.parent, n.name, ps, n.pao, n.pcap⟩).length cap) (l.set j ⟨n.id, n.parent, n.name, ps, n.pao, n.pcap⟩) := by
  have hnm : n ∈ l := by rw [← hn]; exact List.getElem_mem hj
  have hfl : flatG NodG.cells (l.set j ⟨n.id, n.parent, n.name, ps, n.pao, n.pcap⟩) = flatG NodG.cells l := by
    have e := flat_field nod_len l j 3 hj (.slice n.pao n.props.length n.pcap) ⟨n.id, n.parent, n.name, ps, n.pao, n.pcap⟩ (by omega) (by rw [hn]; simp [NodG.cells, hps])
    rw [← e]
    have e2 : (flatG NodG.cells l)[j * 4 + 3]? = some (.slice n.pao n.props.length n.pcap) := by rw [flatG_get nod_len l j 3 hj (by omega), hn]; rfl
    obtain ⟨h1, h2⟩ := List.getElem?_eq_some_iff.1 e2
    rw [← h2]
    exact List.set_getElem_self h1
  have hap : ∀ m ∈ l.set j ⟨n.id, n.parent, n.name, ps, n.pao, n.pcap⟩, ∀ y, m.pao = some y → g ≠ y.block := fun m hm y hy => by
    have hh : ∀ n ∈ l, ∀ y, n.pao = some y → g ≠ y.block := fun n hn y hy e => h.off n hn y hy (by rw [← e]; rfl)
    rcases List.mem_or_eq_of_mem_set hm with hm | rfl
    · exact hh m hm y hy
    · exact hh n hnm y hy
  have hP : ∀ m ∈ l.set j ⟨n.id, n.parent, n.name, ps, n.pao, n.pcap⟩, w'.ownsRow base 64 2 (.slice m.pao m.props.length m.pcap) m.props.length (flatG PropV.cells m.props) := by
    intro m hm
    obtain ⟨i, hi, rfl⟩ := List.getElem_of_mem hm
    have hi' : i < l.length := by simpa using hi
    by_cases e : j = i
    · subst e
      rw [List.getElem_set_self]
      show w'.ownsRow base _ 2 (.slice n.pao ps.length n.pcap) ps.length (flatG PropV.cells ps)
      rw [hps]; exact ho
    · rw [List.getElem_set_ne e]
      refine (h.props _ (List.getElem_mem hi')).kept hg ?_
      cases hpa : l[i].pao with
      | none => exact .inl rfl
      | some y =>
        right
        intro e2
        cases hpn : n.pao with
        | none => rw [hpn] at e2; cases e2
        | some z =>
          rw [hpn] at e2
          have e3 : y.block = z.block := Option.some.inj e2
          rcases Nat.lt_or_gt_of_ne e with hlt | hlt
          · exact List.pairwise_iff_getElem.1 h.apart j i hj hi' hlt z y (by rw [hn]; exact hpn) hpa e3.symm
          · exact List.pairwise_iff_getElem.1 h.apart i j hi' hj hlt y z hpa (by rw [hn]; exact hpn) e3
  refine ⟨?_, hP, ?_, fun m hm y hy e => hap m hm y hy (Option.some.inj e)⟩
  · rw [hfl, List.length_set]
    refine h.row.kept hg ?_
    cases hpn : n.pao with
    | none => right; intro e; cases e
    | some z => right; intro e; exact h.off n hnm z hpn (by rw [← Option.some.inj e]; rfl)
  · exact set_pairwise hj h.apart (fun y hy a b ha hb => hy a b ha (by rw [hn]; exact hb)) (fun y hy a b ha hb => hy a b (by rw [hn]; exact ha) hb)
end Go.Proofs.Ytcpgkalafkhlgaf.OpR
