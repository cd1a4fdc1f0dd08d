/- Proves what the harness does with journals: sizes, copies, comparisons; a journal that came in. -/
import Derived.Test.YtdjjpaleemnikaaOpX
import Derived.Test.YtdjjpaleemnikaaCameOp
namespace Go.Proofs.Ytdjjpaleemnikaa.OpR
open Go.ChangeShapes Go.WideShapes Go.ChangeAt Go.RowKit
set_option linter.unusedVariables false

structure JrnV where
  log : ByteArray
  synced : Int
def JrnV.agg (j : JrnV) : Value := .agg #[.string j.log, .int .i64 j.synced]
def JrnV.cells (j : JrnV) : List Value := [.string j.log, .int .i64 j.synced]
theorem cellsJr : Try.prog.cellsOf 45 = 2 := by kernel_rfl
section
variable {H : Type} {enc : TypeId × Value → H} {w : World} {base : Nat} {spare : Nat → Bool} {held : Bool}
set_option maxRecDepth 100000 in
theorem jrn_of_trod {fuel : Nat} {cs : List Value} {x : DataW H × List MemPlace} (h : DataW.trod enc Try.prog w base spare held fuel 45 cs = some x) :
    ∃ j : JrnV, cs = j.cells ∧ j.log.size ≤ maxLen ∧ (Lit.int .i64 j.synced).wf = true := by
  obtain ⟨xs, n, _, _, hl, hlen, hf⟩ := DataW.trod_struct Try.underlying45 h
  rw [cellsJr] at hl
  match cs, hl with
  | [c0, c1], _ =>
  match xs, hlen with
  | [x0, x1], _ =>
  have h0 : DataW.trod enc Try.prog w base spare held n 9 [c0] = some x0 := by
    have h : DataW.trod enc Try.prog w base spare held n 9 (([c0, c1].drop 0).take (Try.prog.cellsOf 9)) = some x0 := hf 0 _ rfl
    rw [cellsS] at h
    exact h
  have h1 : DataW.trod enc Try.prog w base spare held n 2 [c1] = some x1 := by
    have h : DataW.trod enc Try.prog w base spare held n 2 (([c0, c1].drop 1).take (Try.prog.cellsOf 2)) = some x1 := hf 1 _ rfl
    rw [cellsI] at h
    exact h
  obtain ⟨s0, e0, _, z0⟩ := DataW.trod_string Try.underlying9 h0
  obtain ⟨n1, e1, wf1⟩ := DataW.trod_int Try.underlying2 h1
  cases e0; cases e1
  exact ⟨⟨s0, n1⟩, rfl, z0, wf1.2⟩
end
def CameJr (j : JrnV) : Prop := j.log.size ≤ maxLen ∧ (Lit.int .i64 j.synced).wf = true
set_option maxRecDepth 100000 in
/-- A journal that comes in. -/
theorem cameJr {H : Type} {enc : TypeId × Value → H} {W : World} {base : Nat} {v : Value} {d : DataW H} {p : List MemPlace} (hv : Value.okWide Try.prog W .any base 45 v) (h : DataW.Trod enc Try.prog W 0 (fun _ => true) true 45 v d p) :
    ∃ j : JrnV, v = j.agg ∧ CameJr j := by
  obtain ⟨fuel, hf⟩ := h
  obtain ⟨j, hj, h1, h2⟩ := jrn_of_trod hf
  refine ⟨j, ?_, h1, h2⟩
  simp only [Value.okWide, Try.underlying45] at hv
  obtain ⟨cs, rfl, _, _⟩ := hv
  have e : cs.toList = j.cells := by simpa [Value.cells] using hj
  show Value.agg cs = Value.agg j.cells.toArray
  rw [← e]
set_option maxRecDepth 100000 in
set_option maxHeartbeats 400000 in
theorem szJr_any (j : JrnV) (w : World) (h : j.log.size ≤ maxLen) :
    Calls Try.prog 18 #[j.agg, .int .i64 1048576] w fun e w' => ∃ m : Int, e = .returned (.int .i64 m) ∧ -1 ≤ m ∧ m ≤ 1048576 ∧ (0 ≤ m → j.log.size ≤ 1048576) ∧ Below w.heap.size w w' := by
  unfold maxLen at h
  unfold JrnV.agg
  go_enter Try.func18, Try.ntmps18
  go_wp2
  · go_ret; exact ⟨-1, rfl, by omega, by omega, fun h => by omega, (Below.refl _ _).alloc (Nat.le_refl _) _⟩
  · go_ret; exact ⟨_, rfl, by omega, by omega, fun h => by omega, (Below.refl _ _).alloc (Nat.le_refl _) _⟩
set_option maxRecDepth 100000 in
set_option maxHeartbeats 400000 in
theorem toJr_any (j : JrnV) (w : World) :
    Calls Try.prog 20 #[j.agg] w fun e w' => e = .returned j.agg ∧ Below w.heap.size w w' := by
  unfold JrnV.agg
  go_enter Try.func20, Try.ntmps20
  go_wp2
  exact bodyPost_ret (v := .agg #[.string j.log, .int .i64 j.synced]) (by simp [results, Try.results20, go_sem]) rfl ⟨rfl, (((Below.refl _ _).alloc (Nat.le_refl _) _).alloc (by simp) _).alloc (by simp; omega) _⟩
set_option maxRecDepth 100000 in
set_option maxHeartbeats 400000 in
theorem eqJr_same (j : JrnV) (w : World) :
    Calls Try.prog 22 #[j.agg, j.agg] w fun e w' => e = .returned (.bool true) ∧ Below w.heap.size w w' := by
  unfold JrnV.agg
  go_enter Try.func22, Try.ntmps22
  go_wp2
  go_ret
  exact ⟨rfl, ((Below.refl _ _).alloc (Nat.le_refl _) _).alloc (by simp) _⟩
/-- A journal in a variable. -/
structure JB (w W : World) (g : Nat) (T : TypeId) (j : JrnV) : Prop where
  box : W.heap[g]? = some (.cells #[.string j.log, .int .i64 j.synced] T (0, 0))
  below : Below w.heap.size w W
theorem JB.step {w W W' : World} {g : Nat} {T : TypeId} {j : JrnV} (h : JB w W g T j) (hb : Below W.heap.size W W') : JB w W' g T j := ⟨(hb.block _ (Array.getElem?_eq_some_iff.1 h.box).1).trans h.box, h.below.trans (hb.mono h.below.size)⟩
theorem JB.new (w : World) (T : TypeId) (j : JrnV) : JB w (w.alloc (.cells #[.string j.log, .int .i64 j.synced] T)) w.heap.size T j := ⟨heap_alloc_new w _, (Below.refl _ _).alloc (Nat.le_refl _) _⟩
theorem JB.cells {w W : World} {g : Nat} {T : TypeId} {j : JrnV} (h : JB w W g T j) : W.cell? ⟨g, 0, none⟩ = some (.string j.log) ∧ W.cell? ⟨g, 1, none⟩ = some (.int .i64 j.synced) := by
  have e := h.box
  refine ⟨?_, ?_⟩ <;> simp [World.cell?, e]
end Go.Proofs.Ytdjjpaleemnikaa.OpR
