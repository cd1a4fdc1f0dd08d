/- Rows of what was seen: what lies in them; impl.seenAhead. -/
import Derived.Test.YtdjjpaleemnikaaSrvM
import Derived.Test.YtdjjpaleemnikaaRowG
import Derived.Test.YtdjjpaleemnikaaRowO
namespace Go.Proofs.Ytdjjpaleemnikaa.OpR
open Go.ChangeShapes Go.WideShapes Go.ChangeAt Go.RowKit
set_option linter.unusedVariables false

def SeenV.zero : SeenV := ⟨0, 0⟩
def SeenV.agg (p : SeenV) : Value := .agg #[.int .i64 p.repl, .int .i64 p.many]
def SeenV.cells (p : SeenV) : List Value := [.int .i64 p.repl, .int .i64 p.many]
def SeenAt (w : World) (b p : Nat) (x : SeenV) : Prop := w.cell? ⟨b, p, none⟩ = some (.int .i64 x.repl) ∧ w.cell? ⟨b, p + 1, none⟩ = some (.int .i64 x.many)
/-- The seen of a slice. -/
def SeensAt (w : World) (ao : Option Addr) (l : List SeenV) : Prop := ∀ j (hj : j < l.length), ∃ b off, ao = some ⟨b, off, none⟩ ∧ b < w.heap.size ∧ SeenAt w b (off + j * 2) l[j]
theorem SeenAt.block {w w' : World} {b p : Nat} {x : SeenV} (h : SeenAt w b p x) (e : w'.heap[b]? = w.heap[b]?) : SeenAt w' b p x := by
  unfold SeenAt at *
  simpa only [World.cell?, e] using h
theorem SeensAt.stays {w w' : World} {ao : Option Addr} {l : List SeenV} (h : SeensAt w ao l) (hb : Below w.heap.size w w') : SeensAt w' ao l := fun j hj => by
  obtain ⟨b, off, e, hlt, ho⟩ := h j hj
  exact ⟨b, off, e, Nat.lt_of_lt_of_le hlt hb.size, ho.block (hb.block b hlt)⟩
theorem SeensAt.below {B : Nat} {w w' : World} {ao : Option Addr} {l : List SeenV} (h : SeensAt w ao l) (hb : Below B w w') (hB : ∀ a, ao = some a → a.block < B) : SeensAt w' ao l := fun j hj => by
  obtain ⟨b, off, e, hlt, ho⟩ := h j hj
  exact ⟨b, off, e, Nat.lt_of_lt_of_le hlt hb.size, ho.block (hb.block b (hB _ e))⟩
theorem SeensAt.grown {w w' : World} {row : Option Nat} {ao : Option Addr} {l : List SeenV} (h : SeensAt w ao l) (hg : w.grownBy w' row) (hr : ∀ a, ao = some a → some a.block ≠ row) : SeensAt w' ao l := fun j hj => by
  obtain ⟨b, off, e, hlt, ho⟩ := h j hj
  exact ⟨b, off, e, Nat.lt_of_lt_of_le hlt hg.size, ho.block (hg.block b hlt (hr _ e))⟩
theorem SeensAt.block_ {w w' : World} {ao : Option Addr} {l : List SeenV} (h : SeensAt w ao l) (hs : w.heap.size ≤ w'.heap.size) (hb : ∀ a, ao = some a → w'.heap[a.block]? = w.heap[a.block]?) : SeensAt w' ao l := fun j hj => by
  obtain ⟨b, off, e, hlt, ho⟩ := h j hj
  exact ⟨b, off, e, Nat.lt_of_lt_of_le hlt hs, ho.block (hb _ e)⟩
theorem SeensAt.none_ (w : World) : SeensAt w none [] := fun j hj => absurd hj (by simp)
theorem seen_len (x : SeenV) : x.cells.length = 2 := rfl
theorem infoSeen : (Try.prog.info? 67).map (fun i => (i.zero, i.size, i.bytes)) = some (some (.agg #[.int .i64 0, .int .i64 0]), 2, 16) := by kernel_rfl
theorem seenAhead_any (a b : SeenV) (w : World) :
    Calls Try.prog 76 #[a.agg, b.agg] w fun e w' => e = .returned (.bool (decide (a.repl < b.repl))) ∧ Below w.heap.size w w' := by
  unfold SeenV.agg
  go_enter Try.func76, Try.ntmps76
  go_wp2
  go_ret
  exact ⟨rfl, ((Below.refl _ _).alloc (Nat.le_refl _) _).alloc (by simp) _⟩
theorem InG.seensAt {w : World} {g : Nat} {T : TypeId} {l : List SeenV} (h : InG SeenV.cells w g T l) : SeensAt w (some ⟨g, 0, none⟩) l := fun j hj =>
  ⟨g, 0, rfl, h.lt, by rw [Nat.zero_add]; exact h.cell seen_len hj (f := 0) (by omega) rfl, by rw [Nat.zero_add]; exact h.cell seen_len hj (f := 1) (by omega) rfl⟩
end Go.Proofs.Ytdjjpaleemnikaa.OpR
