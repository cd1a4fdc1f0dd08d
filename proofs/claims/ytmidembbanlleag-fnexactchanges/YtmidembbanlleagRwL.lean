/- What the laws of rows carry along: rows and changes that are looked at, that are marked, that are owned. -/
import Derived.Test.YtmidembbanlleagMkR
import Derived.Test.YtmidembbanlleagMkC
import Derived.Test.YtmidembbanlleagRwO
namespace Go.Proofs.Ytmidembbanlleag.OpR
open Go.ChangeShapes Go.WideShapes Go.ChangeAt Go.RowKit
set_option linter.unusedVariables false

theorem InG.ownsAll {α : Type} {cs : α → List Value} {c : Nat} (hc : ∀ x, (cs x).length = c) {w : World} {g base : Nat} {T : TypeId} {l : List α} (h : InG cs w g T l) (hl : l.length ≤ maxLen) (hb : base ≤ g) : w.ownsRow base T c (.slice (some ⟨g, 0, none⟩) l.length l.length) l.length (flatG cs l) :=
  ⟨flatG_len hc l, .inr ⟨g, l.length, (flatG cs l).toArray, rfl, hb, h, Nat.le_refl _, hl, by simp [flatG_len hc], by rw [← flatG_len hc l, List.take_length]⟩⟩
theorem InG.twixt {α : Type} {cs : α → List Value} {w w' : World} {g base top : Nat} {T : TypeId} {l : List α} (h : InG cs w g T l) (ht : Twixt base top w w') (hb : g < base ∨ top ≤ g) : InG cs w' g T l := (ht.block g h.lt hb).trans h
theorem owns_twixt {w w' : World} {b base top : Nat} {e : TypeId} {size : Nat} {v : Value} {n : Nat} {xs : List Value} (h : w.ownsRow b e size v n xs) (ht : Twixt base top w w') (hb : top ≤ b) : w'.ownsRow b e size v n xs :=
  ⟨h.1, h.2.imp id fun ⟨g, cap, cur, e1, hg0, hg, r⟩ => ⟨g, cap, cur, e1, hg0, (ht.block g (Array.getElem?_eq_some_iff.1 hg).1 (.inr (by omega))).trans hg, r⟩⟩
theorem below_twixt {w c c' : World} {base top : Nat} (h : Below w.heap.size w c) (ht : Twixt base top c c') (hb : w.heap.size ≤ base) : Below w.heap.size w c' := by
  have hs := h.size
  exact ⟨ht.os.trans h.os, ht.tape.trans h.tape, ht.output.trans h.output, Nat.le_trans hs ht.size, fun k hk => (ht.block k (by omega) (.inl (by omega))).trans (h.block k hk)⟩
/-- Rows that are looked at alone, all of them below N. -/
structure RLies (N : Nat) (c : World) (ao : Option Addr) (xs : List PropV) : Prop where
  at_ : PropsAt c ao xs
  low : ∀ j (hj : j < xs.length) a, ao = some a → a.block < N
theorem RLies.of {c : World} {ao : Option Addr} {xs : List PropV} (h : PropsAt c ao xs) : RLies c.heap.size c ao xs :=
  ⟨h, fun j hj a ha => by obtain ⟨b, off, e, hlt, _⟩ := h j hj; rw [ha] at e; cases e; exact hlt⟩
theorem RLies.step {N : Nat} {c c' : World} {ao : Option Addr} {xs : List PropV} (h : RLies N c ao xs) (hb : Below c.heap.size c c') : RLies N c' ao xs := ⟨h.at_.stays hb, h.low⟩
theorem RLies.twixt {N base top : Nat} {c c' : World} {ao : Option Addr} {xs : List PropV} (h : RLies N c ao xs) (ht : Twixt base top c c') (hN : N ≤ base) : RLies N c' ao xs := by
  refine ⟨fun j hj => ?_, h.low⟩
  obtain ⟨b, off, e, hlt, ho⟩ := h.at_ j hj
  have hbN : b < N := h.low j hj _ e
  exact ⟨b, off, e, Nat.lt_of_lt_of_le hlt ht.size, ho.block (ht.block b hlt (.inl (by omega)))⟩
/-- Changes that are looked at alone, all of them below N. -/
structure CLies (N : Nat) (c : World) (ao : Option Addr) (xs : List ChV) : Prop where
  at_ : ChsAt c ao xs
  low : ∀ j (hj : j < xs.length) a, ao = some a → a.block < N
theorem CLies.of {c : World} {ao : Option Addr} {xs : List ChV} (h : ChsAt c ao xs) : CLies c.heap.size c ao xs :=
  ⟨h, fun j hj a ha => by obtain ⟨b, off, e, hlt, _⟩ := h j hj; rw [ha] at e; cases e; exact hlt⟩
theorem CLies.step {N : Nat} {c c' : World} {ao : Option Addr} {xs : List ChV} (h : CLies N c ao xs) (hb : Below c.heap.size c c') : CLies N c' ao xs := ⟨h.at_.stays hb, h.low⟩
theorem CLies.twixt {N base top : Nat} {c c' : World} {ao : Option Addr} {xs : List ChV} (h : CLies N c ao xs) (ht : Twixt base top c c') (hN : N ≤ base) : CLies N c' ao xs := by
  refine ⟨fun j hj => ?_, h.low⟩
  obtain ⟨b, off, e, hlt, ho⟩ := h.at_ j hj
  have hbN : b < N := h.low j hj _ e
  exact ⟨b, off, e, Nat.lt_of_lt_of_le hlt ht.size, ho.block (ht.block b hlt (.inl (by omega)))⟩
theorem owns_cellsR' {w : World} {base : Nat} {ao : Option Addr} {cap n : Nat} {l : List PropV} (h : w.ownsRow base 43 2 (.slice ao n cap) n (flatG PropV.cells l)) (hn : l.length = n) : PropsAt w ao l := by
  subst hn
  exact owns_cellsR h
end Go.Proofs.Ytmidembbanlleag.OpR
