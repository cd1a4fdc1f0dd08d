/- Proves what impl's hand does when it is told how many have come. -/
import Derived.Test.YtkfjommoogmehaaDoorCliH
import Derived.Test.YtkfjommoogmehaaDoorCliK
import Derived.Test.YtkfjommoogmehaaDoorIsE
import Derived.Test.YtkfjommoogmehaaDoorCliQ
import Derived.Test.YtkfjommoogmehaaDoorCameC
namespace Go.Proofs.YtkfjommoogmehaaDoor.OpR
open Go.ChangeShapes Go.WideShapes Go.ChangeAt Go.RowKit
set_option linter.unusedVariables false

theorem drewN_b {B : Nat} {a b : World} (h : Below B a b) (n : Nat) : Below B a (b.drewN n) := ⟨h.os, h.tape, h.output, h.size, h.block⟩
/-- A hand behind a pointer. -/
def HandAt (W : World) (g : Nat) (x : CliV) (la : Option Addr) (lc : Nat) (oa : Option Addr) (oc : Nat) : Prop := W.heap[g]? = some (.cells #[.slice la x.log.length lc, .int .i64 x.repl, .int .i64 x.clock, .int .i64 x.acked, .slice oa x.out.length oc, .int .i64 x.got] 58 (0, 0))
theorem HandAt.lt {W : World} {g : Nat} {x : CliV} {la : Option Addr} {lc : Nat} {oa : Option Addr} {oc : Nat} (h : HandAt W g x la lc oa oc) : g < W.heap.size := (Array.getElem?_eq_some_iff.1 h).1
theorem HandAt.step {W W' : World} {g : Nat} {x : CliV} {la : Option Addr} {lc : Nat} {oa : Option Addr} {oc : Nat} (h : HandAt W g x la lc oa oc) (hb : Below W.heap.size W W') : HandAt W' g x la lc oa oc := (hb.block g h.lt).trans h
theorem HandAt.cells {W : World} {g : Nat} {x : CliV} {la : Option Addr} {lc : Nat} {oa : Option Addr} {oc : Nat} (h : HandAt W g x la lc oa oc) :
    W.cell? ⟨g, 0, none⟩ = some (.slice la x.log.length lc) ∧ W.cell? ⟨g, 1, none⟩ = some (.int .i64 x.repl) ∧ W.cell? ⟨g, 2, none⟩ = some (.int .i64 x.clock) ∧ W.cell? ⟨g, 3, none⟩ = some (.int .i64 x.acked) ∧ W.cell? ⟨g, 4, none⟩ = some (.slice oa x.out.length oc) ∧ W.cell? ⟨g, 5, none⟩ = some (.int .i64 x.got) ∧ ∀ i, W.frozen? ⟨g, i, none⟩ = false := by
  unfold HandAt at h
  refine ⟨?_, ?_, ?_, ?_, ?_, ?_, fun i => by simp [World.frozen?, h]⟩ <;> simp [World.cell?, h]
end Go.Proofs.YtkfjommoogmehaaDoor.OpR
