/- An op as a Lean value, and how it lies in memory: seven cells. -/
import Derived.Test.YtlphcbgeagmopaaRows
import Derived.WalkKit
import Derived.WalkSpells
import Derived.WalkLawsBesides
import Derived.ProofKit
import Derived.Deep.Light
import Derived.Deep.AppendLies
import Derived.Deep.RegionHeld3
import Derived.Deep.OwnRows
import Derived.WalkMore
namespace Go.Proofs.Ytlphcbgeagmopaa.OpR
open Go.ChangeShapes Go.WideShapes Go.ChangeAt Go.RowKit
set_option linter.unusedVariables false

/-- What the walk is not to use. -/
structure Hid (p : Prop) : Prop where
  out : p
theorem hide {p : Prop} (h : p) : Hid p := ⟨h⟩

structure OpV where
  time : Int
  repl : Int
  kind : Int
  node : Int
  parent : Int
  name : ByteArray
  value : ByteArray
/-- Two ops as wholes. -/
def sameOp (a b : OpV) : Bool := decide (a.time = b.time) && (decide (a.repl = b.repl) && (decide (a.kind = b.kind) && (decide (a.node = b.node) && (decide (a.parent = b.parent) && (decide (a.name = b.name) && decide (a.value = b.value))))))
theorem same_iff (a b : OpV) : sameOp a b = true ↔ a = b := by
  constructor
  · intro h
    unfold sameOp at h
    simp only [Bool.and_eq_true, decide_eq_true_eq] at h
    obtain ⟨h0, h1, h2, h3, h4, h5, h6⟩ := h
    obtain ⟨a0, a1, a2, a3, a4, a5, a6⟩ := a
    obtain ⟨b0, b1, b2, b3, b4, b5, b6⟩ := b
    simp only at h0 h1 h2 h3 h4 h5 h6
    rw [h0, h1, h2, h3, h4, h5, h6]
  · intro h
    subst h
    simp [sameOp]
theorem same_true {a b : OpV} (h : a = b) : sameOp a b = true := (same_iff a b).2 h
theorem same_false {a b : OpV} (h : ¬ a = b) : sameOp a b = false := by
  cases e : sameOp a b
  · rfl
  · exact absurd ((same_iff a b).1 e) h
/-- A question asked of each number below n. -/
def allTo (n : Nat) (p : Nat → Bool) : Bool := (List.range n).all p
theorem allTo_iff (n : Nat) (p : Nat → Bool) : allTo n p = true ↔ ∀ i, i < n → p i = true := by
  unfold allTo
  rw [List.all_eq_true]
  exact ⟨fun h i hi => h i (List.mem_range.2 hi), fun h i hi => h i (List.mem_range.1 hi)⟩
theorem bool_no {b : Bool} {p : Prop} (h : b = true ↔ p) (hn : ¬ p) : b = false := by
  cases e : b
  · rfl
  · exact absurd (h.1 e) hn
/-- Its cells. -/
def OpV.cells (o : OpV) : List Value := [.int .i64 o.time, .int .i64 o.repl, .int .i64 o.kind, .int .i64 o.node, .int .i64 o.parent, .string o.name, .string o.value]
def OpV.agg (o : OpV) : Value := .agg #[.int .i64 o.time, .int .i64 o.repl, .int .i64 o.kind, .int .i64 o.node, .int .i64 o.parent, .string o.name, .string o.value]
/-- The seven cells of an op at a place. -/
def OpAt (w : World) (b p : Nat) (o : OpV) : Prop :=
  w.cell? ⟨b, p, none⟩ = some (.int .i64 o.time) ∧ w.cell? ⟨b, p + 1, none⟩ = some (.int .i64 o.repl) ∧ w.cell? ⟨b, p + 2, none⟩ = some (.int .i64 o.kind) ∧ w.cell? ⟨b, p + 3, none⟩ = some (.int .i64 o.node) ∧ w.cell? ⟨b, p + 4, none⟩ = some (.int .i64 o.parent) ∧ w.cell? ⟨b, p + 5, none⟩ = some (.string o.name) ∧ w.cell? ⟨b, p + 6, none⟩ = some (.string o.value)
/-- The ops of a slice. -/
def OpsAt (w : World) (ao : Option Addr) (l : List OpV) : Prop := ∀ j (hj : j < l.length), ∃ b off, ao = some ⟨b, off, none⟩ ∧ b < w.heap.size ∧ OpAt w b (off + j * 7) l[j]
theorem OpAt.block {w w' : World} {b p : Nat} {o : OpV} (h : OpAt w b p o) (e : w'.heap[b]? = w.heap[b]?) : OpAt w' b p o := by
  unfold OpAt at *
  simpa only [World.cell?, e] using h
theorem OpsAt.below {B : Nat} {w w' : World} {ao : Option Addr} {l : List OpV} (h : OpsAt w ao l) (hb : Below B w w') (hB : ∀ a, ao = some a → a.block < B) : OpsAt w' ao l := fun j hj => by
  obtain ⟨b, off, e, hlt, ho⟩ := h j hj
  exact ⟨b, off, e, Nat.lt_of_lt_of_le hlt hb.size, ho.block (hb.block b (hB _ e))⟩
theorem OpsAt.stays {w w' : World} {ao : Option Addr} {l : List OpV} (h : OpsAt w ao l) (hb : Below w.heap.size w w') : OpsAt w' ao l := fun j hj => by
  obtain ⟨b, off, e, hlt, ho⟩ := h j hj
  exact ⟨b, off, e, Nat.lt_of_lt_of_le hlt hb.size, ho.block (hb.block b hlt)⟩
end Go.Proofs.Ytlphcbgeagmopaa.OpR
