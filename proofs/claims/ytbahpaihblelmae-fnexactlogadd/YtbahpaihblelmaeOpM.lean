/- An op as a Lean value, and how it lies in memory: seven cells. -/
import Derived.Test.YtbahpaihblelmaeRows
import Derived.WalkKit
import Derived.WalkSpells
import Derived.WalkLawsBesides
import Derived.ProofKit
import Derived.Deep.Light
import Derived.Deep.AppendLies
import Derived.Deep.RegionHeld3
import Derived.Deep.OwnRows
import Derived.WalkMore
namespace Go.Proofs.Ytbahpaihblelmae.OpR
open Go.ChangeShapes Go.WideShapes Go.ChangeAt Go.RowKit
set_option linter.unusedVariables false

/-- What the walk is not to use. -/
structure Hid (p : Prop) : Prop where
  out : p
theorem hide {p : Prop} (h : p) : Hid p := ⟨h⟩

structure OpV where
  time : Int
  repl : Int
  kind : Int
  node : Int
  parent : Int
  name : ByteArray
  value : ByteArray
deriving DecidableEq
/-- Its cells. -/
def OpV.cells (o : OpV) : List Value := [.int .i64 o.time, .int .i64 o.repl, .int .i64 o.kind, .int .i64 o.node, .int .i64 o.parent, .string o.name, .string o.value]
def OpV.agg (o : OpV) : Value := .agg #[.int .i64 o.time, .int .i64 o.repl, .int .i64 o.kind, .int .i64 o.node, .int .i64 o.parent, .string o.name, .string o.value]
/-- The seven cells of an op at a place. -/
def OpAt (w : World) (b p : Nat) (o : OpV) : Prop :=
  w.cell? ⟨b, p, none⟩ = some (.int .i64 o.time) ∧ w.cell? ⟨b, p + 1, none⟩ = some (.int .i64 o.repl) ∧ w.cell? ⟨b, p + 2, none⟩ = some (.int .i64 o.kind) ∧ w.cell? ⟨b, p + 3, none⟩ = some (.int .i64 o.node) ∧ w.cell? ⟨b, p + 4, none⟩ = some (.int .i64 o.parent) ∧ w.cell? ⟨b, p + 5, none⟩ = some (.string o.name) ∧ w.cell? ⟨b, p + 6, none⟩ = some (.string o.value)
/-- The ops of a slice. -/
def OpsAt (w : World) (ao : Option Addr) (l : List OpV) : Prop := ∀ j (hj : j < l.length), ∃ b off, ao = some ⟨b, off, none⟩ ∧ b < w.heap.size ∧ OpAt w b (off + j * 7) l[j]
theorem OpAt.block {w w' : World} {b p : Nat} {o : OpV} (h : OpAt w b p o) (e : w'.heap[b]? = w.heap[b]?) : OpAt w' b p o := by
  unfold OpAt at *
  simpa only [World.cell?, e] using h
theorem OpsAt.below {B : Nat} {w w' : World} {ao : Option Addr} {l : List OpV} (h : OpsAt w ao l) (hb : Below B w w') (hB : ∀ a, ao = some a → a.block < B) : OpsAt w' ao l := fun j hj => by
  obtain ⟨b, off, e, hlt, ho⟩ := h j hj
  exact ⟨b, off, e, Nat.lt_of_lt_of_le hlt hb.size, ho.block (hb.block b (hB _ e))⟩
theorem OpsAt.stays {w w' : World} {ao : Option Addr} {l : List OpV} (h : OpsAt w ao l) (hb : Below w.heap.size w w') : OpsAt w' ao l := fun j hj => by
  obtain ⟨b, off, e, hlt, ho⟩ := h j hj
  exact ⟨b, off, e, Nat.lt_of_lt_of_le hlt hb.size, ho.block (hb.block b hlt)⟩
end Go.Proofs.Ytbahpaihblelmae.OpR
