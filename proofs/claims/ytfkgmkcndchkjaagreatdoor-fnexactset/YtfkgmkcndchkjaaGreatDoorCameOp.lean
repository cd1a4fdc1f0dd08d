/- What is known of ops that come in as arguments. -/
import Derived.Test.YtfkgmkcndchkjaaGreatDoorOpM
import Derived.SizedLaws
import Derived.Deep.Slices
namespace Go.Proofs.YtfkgmkcndchkjaaGreatDoor.OpR
open Go.ChangeShapes Go.WideShapes Go.ChangeAt Go.RowKit
set_option linter.unusedVariables false

theorem laidOut : laidOutB Tryz.prog = true := by kernel_rfl
theorem cellsI : Tryz.prog.cellsOf 2 = 1 := by kernel_rfl
theorem cellsS : Tryz.prog.cellsOf 9 = 1 := by kernel_rfl
theorem cellsOp : Tryz.prog.cellsOf 55 = 7 := by kernel_rfl
theorem shape_lt {w : World} {b : Nat} {x : TypeId × Nat} (h : w.shape? b = some x) : b < w.heap.size := by
  rcases Nat.lt_or_ge b w.heap.size with h' | h'
  · exact h'
  · unfold World.shape? at h
    rw [Array.getElem?_eq_none h'] at h
    simp at h

section
variable {H : Type} {enc : TypeId × Value → H} {w : World} {base : Nat} {spare : Nat → Bool} {held : Bool}
set_option maxRecDepth 100000 in
theorem op_of_trod {fuel : Nat} {cs : List Value} {x : DataW H × List MemPlace} (h : DataW.trod enc Tryz.prog w base spare held fuel 55 cs = some x) :
    ∃ o : OpV, cs = o.cells ∧ o.name.size ≤ maxLen ∧ o.value.size ≤ maxLen := by
  obtain ⟨xs, n, _, _, hl, hlen, hf⟩ := DataW.trod_struct Tryz.underlying55 h
  rw [cellsOp] at hl
  match cs, hl with
  | [c0, c1, c2, c3, c4, c5, c6], _ =>
  match xs, hlen with
  | [x0, x1, x2, x3, x4, x5, x6], _ =>
  have h0 : DataW.trod enc Tryz.prog w base spare held n 2 [c0] = some x0 := by
    have h : DataW.trod enc Tryz.prog w base spare held n 2 (([c0, c1, c2, c3, c4, c5, c6].drop 0).take (Tryz.prog.cellsOf 2)) = some x0 := hf 0 _ rfl
    rw [cellsI] at h
    exact h
  have h1 : DataW.trod enc Tryz.prog w base spare held n 2 [c1] = some x1 := by
    have h : DataW.trod enc Tryz.prog w base spare held n 2 (([c0, c1, c2, c3, c4, c5, c6].drop 1).take (Tryz.prog.cellsOf 2)) = some x1 := hf 1 _ rfl
    rw [cellsI] at h
    exact h
  have h2 : DataW.trod enc Tryz.prog w base spare held n 2 [c2] = some x2 := by
    have h : DataW.trod enc Tryz.prog w base spare held n 2 (([c0, c1, c2, c3, c4, c5, c6].drop 2).take (Tryz.prog.cellsOf 2)) = some x2 := hf 2 _ rfl
    rw [cellsI] at h
    exact h
  have h3 : DataW.trod enc Tryz.prog w base spare held n 2 [c3] = some x3 := by
    have h : DataW.trod enc Tryz.prog w base spare held n 2 (([c0, c1, c2, c3, c4, c5, c6].drop 3).take (Tryz.prog.cellsOf 2)) = some x3 := hf 3 _ rfl
    rw [cellsI] at h
    exact h
  have h4 : DataW.trod enc Tryz.prog w base spare held n 2 [c4] = some x4 := by
    have h : DataW.trod enc Tryz.prog w base spare held n 2 (([c0, c1, c2, c3, c4, c5, c6].drop 4).take (Tryz.prog.cellsOf 2)) = some x4 := hf 4 _ rfl
    rw [cellsI] at h
    exact h
  have h5 : DataW.trod enc Tryz.prog w base spare held n 9 [c5] = some x5 := by
    have h : DataW.trod enc Tryz.prog w base spare held n 9 (([c0, c1, c2, c3, c4, c5, c6].drop 5).take (Tryz.prog.cellsOf 9)) = some x5 := hf 5 _ rfl
    rw [cellsS] at h
    exact h
  have h6 : DataW.trod enc Tryz.prog w base spare held n 9 [c6] = some x6 := by
    have h : DataW.trod enc Tryz.prog w base spare held n 9 (([c0, c1, c2, c3, c4, c5, c6].drop 6).take (Tryz.prog.cellsOf 9)) = some x6 := hf 6 _ rfl
    rw [cellsS] at h
    exact h
  obtain ⟨n0, e0, _⟩ := DataW.trod_int Tryz.underlying2 h0
  obtain ⟨n1, e1, _⟩ := DataW.trod_int Tryz.underlying2 h1
  obtain ⟨n2, e2, _⟩ := DataW.trod_int Tryz.underlying2 h2
  obtain ⟨n3, e3, _⟩ := DataW.trod_int Tryz.underlying2 h3
  obtain ⟨n4, e4, _⟩ := DataW.trod_int Tryz.underlying2 h4
  obtain ⟨s5, e5, _, z5⟩ := DataW.trod_string Tryz.underlying9 h5
  obtain ⟨s6, e6, _, z6⟩ := DataW.trod_string Tryz.underlying9 h6
  cases e0; cases e1; cases e2; cases e3; cases e4; cases e5; cases e6
  exact ⟨⟨n0, n1, n2, n3, n4, s5, s6⟩, rfl, z5, z6⟩
end
set_option maxRecDepth 100000 in
/-- A struct that comes in. -/
theorem cameOp {H : Type} {enc : TypeId × Value → H} {W : World} {base : Nat} {v : Value} {d : DataW H} {p : List MemPlace} (hv : Value.okWide Tryz.prog W .any base 55 v) (h : DataW.Trod enc Tryz.prog W 0 (fun _ => true) true 55 v d p) :
    ∃ o : OpV, v = o.agg ∧ o.name.size ≤ maxLen ∧ o.value.size ≤ maxLen := by
  obtain ⟨fuel, hf⟩ := h
  obtain ⟨o, ho, h1, h2⟩ := op_of_trod hf
  refine ⟨o, ?_, h1, h2⟩
  simp only [Value.okWide, Tryz.underlying55] at hv
  obtain ⟨cs, rfl, _, _⟩ := hv
  have e : cs.toList = o.cells := by simpa [Value.cells] using ho
  show Value.agg cs = Value.agg o.cells.toArray
  rw [← e]
/-- A row of them that comes in. -/
def CameOps (w : World) (ao : Option Addr) (l : List OpV) : Prop := l.length ≤ maxLen ∧ OpsAt w ao l ∧ (∀ o ∈ l, o.name.size ≤ maxLen ∧ o.value.size ≤ maxLen) ∧ ∀ a, ao = some a → a.block < w.heap.size
set_option maxRecDepth 100000 in
theorem cameOps {H : Type} {enc : TypeId × Value → H} {W : World} {base : Nat} {v : Value} {d : DataW H} {p : List MemPlace} (hv : Value.okWide Tryz.prog W .any base 22 v) (h : DataW.Trod enc Tryz.prog W 0 (fun _ => true) true 22 v d p) :
    ∃ ao cap l, v = .slice ao l.length cap ∧ CameOps W ao l := by
  obtain ⟨ao, len, cap, rfl⟩ := okWide_slice Tryz.underlying22 hv
  have hbl : ∀ a, ao = some a → a.block < W.heap.size := by
    rintro a rfl
    simp only [Value.okWide, Tryz.underlying22, Cell.okWide, Cell.ok] at hv
    obtain ⟨_, _, _, _, row, cells, hs, _⟩ := hv
    exact shape_lt hs
  obtain ⟨fuel, hf⟩ := h
  rcases Deep.open_slice Tryz.underlying22 hf with ⟨hcs, hx⟩ | ⟨a, len', cap', m, n, D, Pl, hcs, _, hl, hm, hmm, hx, hel⟩
  · simp [Value.cells] at hcs
    obtain ⟨rfl, rfl, rfl⟩ := hcs
    exact ⟨none, 0, [], rfl, by unfold maxLen; simp, fun j hj => absurd hj (by simp), fun o ho => absurd ho (by simp), hbl⟩
  · simp [Value.cells] at hcs
    obtain ⟨rfl, rfl, rfl⟩ := hcs
    simp only [if_true] at hmm
    subst hmm
    have each : ∀ i, i < len → ∃ o : OpV, (∀ f, f < 7 → W.cell? ((a.add (i * 7)).add f) = o.cells[f]?) ∧ o.name.size ≤ maxLen ∧ o.value.size ≤ maxLen := fun i hi => by
      obtain ⟨cs', h1, h2⟩ := hel i (by omega)
      obtain ⟨o, rfl, z1, z2⟩ := op_of_trod h2
      rw [cellsOp] at h1
      obtain ⟨_, _, hc⟩ := World.cells?_some h1
      exact ⟨o, hc, z1, z2⟩
    haveI : Inhabited OpV := ⟨⟨0, 0, 0, 0, 0, ⟨#[]⟩, ⟨#[]⟩⟩⟩
    obtain ⟨f, hfn⟩ := Deep.choose_lt each
    refine ⟨some a, m, (List.range len).map f, by simp, by simp; omega, fun j hj => ?_, fun o ho => ?_, hbl⟩
    · have hj' : j < len := by simpa using hj
      obtain ⟨hc, _, _⟩ := hfn j hj'
      obtain ⟨b, off, spot⟩ := a
      have h0 := (hfn 0 (by omega)).1 0 (by omega)
      have hspot : spot = none := by simpa [Addr.add] using World.cell?_spot h0
      subst hspot
      have hc' : ∀ q, q < 7 → W.cell? ⟨b, off + j * 7 + q, none⟩ = (f j).cells[q]? := fun q hq => by
        have := hc q hq
        rwa [add_plain, add_plain] at this
      have e : ((List.range len).map f)[j] = f j := by simp
      rw [e]
      exact ⟨b, off, rfl, hbl _ rfl, hc' 0 (by omega), hc' 1 (by omega), hc' 2 (by omega), hc' 3 (by omega), hc' 4 (by omega), hc' 5 (by omega), hc' 6 (by omega)⟩
    · obtain ⟨i, hi, rfl⟩ := List.mem_map.1 ho
      exact ⟨(hfn i (List.mem_range.1 hi)).2.1, (hfn i (List.mem_range.1 hi)).2.2⟩
end Go.Proofs.YtfkgmkcndchkjaaGreatDoor.OpR
