/- Proves what the harness' marks do to props, and what its look at them tells. -/
import Derived.Test.YtmidembbanlleagMark
import Derived.Test.YtmidembbanlleagRowS
namespace Go.Proofs.Ytmidembbanlleag.OpR
open Go.ChangeShapes Go.WideShapes Go.ChangeAt Go.RowKit
set_option linter.unusedVariables false

/-- Props that are marked from k on. -/
def markP (k n : Nat) : List PropV := (List.range n).map fun j => ⟨mt (k + 2 * j), mt (k + 2 * j + 1)⟩
theorem markP_len (k n : Nat) : (markP k n).length = n := by simp [markP]
theorem markP_get {k n j : Nat} (h : j < (markP k n).length) : (markP k n)[j] = ⟨mt (k + 2 * j), mt (k + 2 * j + 1)⟩ := by simp [markP]
/-- The first ones of one list, the rest of another. -/
def mixG {α : Type} (a b : List α) (j : Nat) : List α := a.take j ++ b.drop j
theorem mixG_len {α : Type} {a b : List α} (h : a.length = b.length) {j : Nat} (hj : j ≤ b.length) : (mixG a b j).length = b.length := by simp [mixG]; omega
theorem mixG_get {α : Type} {a b : List α} (h : a.length = b.length) {j : Nat} (hj : j < b.length) (hm : j < (mixG a b j).length) : (mixG a b j)[j] = b[j] := by
  simp only [mixG]
  rw [List.getElem_append_right (by simp; omega)]
  simp [Nat.min_eq_left (show j ≤ a.length by omega)]
theorem mixG_set {α : Type} {a b : List α} (h : a.length = b.length) {j : Nat} (hj : j < b.length) (ha : j < a.length) : (mixG a b j).set j a[j] = mixG a b (j + 1) := by
  unfold mixG
  have e1 : (a.take j).length = j := by simp; omega
  rw [List.set_append_right _ _ (by omega), e1, Nat.sub_self, List.drop_eq_getElem_cons hj, List.set_cons_zero, ← List.take_append_getElem ha, List.append_assoc]
  rfl
theorem mixG_all {α : Type} {a b : List α} (h : a.length = b.length) : mixG a b b.length = a := by simp [mixG, ← h]
theorem mixG_zero {α : Type} (a b : List α) : mixG a b 0 = b := by simp [mixG]
theorem row_cell {w : World} {base : Nat} {T : TypeId} {c g n cap : Nat} {xs : List Value} (h : w.ownsRow base T c (.slice (some ⟨g, 0, none⟩) n cap) n xs) {i : Nat} (hi : i < xs.length) : w.cell? ⟨g, i, none⟩ = some xs[i] := by
  have := h.cells rfl i xs[i] (List.getElem?_eq_getElem hi)
  rwa [Addr.add_lit, Nat.zero_add] at this
theorem grow_refl (W : World) (r : Option Nat) : W.grownBy W r := ⟨rfl, rfl, rfl, Nat.le_refl _, fun _ _ _ => rfl⟩
theorem grow_set {w c : World} {g : Nat} (h : w.grownBy c (some g)) (p : Nat) (u : Value) : w.grownBy (c.setCell ⟨g, p, none⟩ u) (some g) :=
  ⟨h.os, h.tape, h.output, Nat.le_trans h.size (by simp [World.setCell]), fun k hk hne => (Below.heap_setCell _ _ _ _ (fun e => hne (by rw [e]))).trans (h.block k hk hne)⟩
theorem grow_below {w c c' : World} {r : Option Nat} (h : w.grownBy c r) (hb : Below c.heap.size c c') : w.grownBy c' r :=
  ⟨hb.os.trans h.os, hb.tape.trans h.tape, hb.output.trans h.output, Nat.le_trans h.size hb.size, fun k hk hne => (hb.block k (Nat.lt_of_lt_of_le hk h.size)).trans (h.block k hk hne)⟩

end Go.Proofs.Ytmidembbanlleag.OpR
