/- What is known of ops that come in as arguments. What is known of trees that come in as arguments. What is asked of trees doesn't hang on where their props lie. Proves the walk of the law FnExactTreeRight. Proves what spec.Above tells. Proves what slices.Collect(maps.Values(nodes)) makes of a map of nodes: its nodes, each once, in some order, in a row of its own. A row of ops that the call owns: what lies in it, and what slices of it are. -/
import Derived.Test.YtcpgkalafkhlgaeDoc
import Derived.SizedLaws
import Derived.Deep.Slices
import Derived.RangeFuncNested
import Derived.RangeFuncBound
import Derived.RangeFuncCalls
import Derived.RangeFuncLeaves
import Derived.Sort.MapsRangeIn
import Derived.Maps.AppendAt
import Derived.Maps.OwnIn
import Derived.Shelf.Abstract
import Derived.Shelf.RegionOpen
import Derived.OwnWalkIn
import Derived.TacticsInMore
import Derived.RegionIn
import Derived.LoopNIn
import Derived.LoopIn
namespace Go.Proofs.Ytcpgkalafkhlgae.OpR
open Go.ChangeShapes Go.WideShapes Go.ChangeAt Go.RowKit
set_option linter.unusedVariables false

theorem laidOut : laidOutB Try.prog = true := by kernel_rfl
theorem cellsI : Try.prog.cellsOf 2 = 1 := by kernel_rfl
theorem cellsS : Try.prog.cellsOf 9 = 1 := by kernel_rfl
theorem cellsOp : Try.prog.cellsOf 48 = 7 := by kernel_rfl
theorem shape_lt {w : World} {b : Nat} {x : TypeId × Nat} (h : w.shape? b = some x) : b < w.heap.size := by
  rcases Nat.lt_or_ge b w.heap.size with h' | h'
  · exact h'
  · unfold World.shape? at h
    rw [Array.getElem?_eq_none h'] at h
    simp at h

section
variable {H : Type} {enc : TypeId × Value → H} {w : World} {base : Nat} {spare : Nat → Bool} {held : Bool}
set_option maxRecDepth 100000 in
theorem op_of_trod {fuel : Nat} {cs : List Value} {x : DataW H × List MemPlace} (h : DataW.trod enc Try.prog w base spare held fuel 48 cs = some x) :
    ∃ o : OpV, cs = o.cells ∧ o.name.size ≤ maxLen ∧ o.value.size ≤ maxLen := by
  obtain ⟨xs, n, _, _, hl, hlen, hf⟩ := DataW.trod_struct Try.underlying48 h
  rw [cellsOp] at hl
  match cs, hl with
  | [c0, c1, c2, c3, c4, c5, c6], _ =>
  match xs, hlen with
  | [x0, x1, x2, x3, x4, x5, x6], _ =>
  have h0 : DataW.trod enc Try.prog w base spare held n 2 [c0] = some x0 := by
    have h : DataW.trod enc Try.prog w base spare held n 2 (([c0, c1, c2, c3, c4, c5, c6].drop 0).take (Try.prog.cellsOf 2)) = some x0 := hf 0 _ rfl
    rw [cellsI] at h
    exact h
  have h1 : DataW.trod enc Try.prog w base spare held n 2 [c1] = some x1 := by
    have h : DataW.trod enc Try.prog w base spare held n 2 (([c0, c1, c2, c3, c4, c5, c6].drop 1).take (Try.prog.cellsOf 2)) = some x1 := hf 1 _ rfl
    rw [cellsI] at h
    exact h
  have h2 : DataW.trod enc Try.prog w base spare held n 2 [c2] = some x2 := by
    have h : DataW.trod enc Try.prog w base spare held n 2 (([c0, c1, c2, c3, c4, c5, c6].drop 2).take (Try.prog.cellsOf 2)) = some x2 := hf 2 _ rfl
    rw [cellsI] at h
    exact h
  have h3 : DataW.trod enc Try.prog w base spare held n 2 [c3] = some x3 := by
    have h : DataW.trod enc Try.prog w base spare held n 2 (([c0, c1, c2, c3, c4, c5, c6].drop 3).take (Try.prog.cellsOf 2)) = some x3 := hf 3 _ rfl
    rw [cellsI] at h
    exact h
  have h4 : DataW.trod enc Try.prog w base spare held n 2 [c4] = some x4 := by
    have h : DataW.trod enc Try.prog w base spare held n 2 (([c0, c1, c2, c3, c4, c5, c6].drop 4).take (Try.prog.cellsOf 2)) = some x4 := hf 4 _ rfl
    rw [cellsI] at h
    exact h
  have h5 : DataW.trod enc Try.prog w base spare held n 9 [c5] = some x5 := by
    have h : DataW.trod enc Try.prog w base spare held n 9 (([c0, c1, c2, c3, c4, c5, c6].drop 5).take (Try.prog.cellsOf 9)) = some x5 := hf 5 _ rfl
    rw [cellsS] at h
    exact h
  have h6 : DataW.trod enc Try.prog w base spare held n 9 [c6] = some x6 := by
    have h : DataW.trod enc Try.prog w base spare held n 9 (([c0, c1, c2, c3, c4, c5, c6].drop 6).take (Try.prog.cellsOf 9)) = some x6 := hf 6 _ rfl
    rw [cellsS] at h
    exact h
  obtain ⟨n0, e0, _⟩ := DataW.trod_int Try.underlying2 h0
  obtain ⟨n1, e1, _⟩ := DataW.trod_int Try.underlying2 h1
  obtain ⟨n2, e2, _⟩ := DataW.trod_int Try.underlying2 h2
  obtain ⟨n3, e3, _⟩ := DataW.trod_int Try.underlying2 h3
  obtain ⟨n4, e4, _⟩ := DataW.trod_int Try.underlying2 h4
  obtain ⟨s5, e5, _, z5⟩ := DataW.trod_string Try.underlying9 h5
  obtain ⟨s6, e6, _, z6⟩ := DataW.trod_string Try.underlying9 h6
  cases e0; cases e1; cases e2; cases e3; cases e4; cases e5; cases e6
  exact ⟨⟨n0, n1, n2, n3, n4, s5, s6⟩, rfl, z5, z6⟩
end
set_option maxRecDepth 100000 in
/-- A struct that comes in. -/
theorem cameOp {H : Type} {enc : TypeId × Value → H} {W : World} {base : Nat} {v : Value} {d : DataW H} {p : List MemPlace} (hv : Value.okWide Try.prog W .any base 48 v) (h : DataW.Trod enc Try.prog W 0 (fun _ => true) true 48 v d p) :
    ∃ o : OpV, v = o.agg ∧ o.name.size ≤ maxLen ∧ o.value.size ≤ maxLen := by
  obtain ⟨fuel, hf⟩ := h
  obtain ⟨o, ho, h1, h2⟩ := op_of_trod hf
  refine ⟨o, ?_, h1, h2⟩
  simp only [Value.okWide, Try.underlying48] at hv
  obtain ⟨cs, rfl, _, _⟩ := hv
  have e : cs.toList = o.cells := by simpa [Value.cells] using ho
  show Value.agg cs = Value.agg o.cells.toArray
  rw [← e]
/-- A row of them that comes in. -/
def CameOps (w : World) (ao : Option Addr) (l : List OpV) : Prop := l.length ≤ maxLen ∧ OpsAt w ao l ∧ (∀ o ∈ l, o.name.size ≤ maxLen ∧ o.value.size ≤ maxLen) ∧ ∀ a, ao = some a → a.block < w.heap.size
set_option maxRecDepth 100000 in
theorem cameOps {H : Type} {enc : TypeId × Value → H} {W : World} {base : Nat} {v : Value} {d : DataW H} {p : List MemPlace} (hv : Value.okWide Try.prog W .any base 29 v) (h : DataW.Trod enc Try.prog W 0 (fun _ => true) true 29 v d p) :
    ∃ ao cap l, v = .slice ao l.length cap ∧ CameOps W ao l := by
  obtain ⟨ao, len, cap, rfl⟩ := okWide_slice Try.underlying29 hv
  have hbl : ∀ a, ao = some a → a.block < W.heap.size := by
    rintro a rfl
    simp only [Value.okWide, Try.underlying29, Cell.okWide, Cell.ok] at hv
    obtain ⟨_, _, _, _, row, cells, hs, _⟩ := hv
    exact shape_lt hs
  obtain ⟨fuel, hf⟩ := h
  rcases Deep.open_slice Try.underlying29 hf with ⟨hcs, hx⟩ | ⟨a, len', cap', m, n, D, Pl, hcs, _, hl, hm, hmm, hx, hel⟩
  · simp [Value.cells] at hcs
    obtain ⟨rfl, rfl, rfl⟩ := hcs
    exact ⟨none, 0, [], rfl, by unfold maxLen; simp, fun j hj => absurd hj (by simp), fun o ho => absurd ho (by simp), hbl⟩
  · simp [Value.cells] at hcs
    obtain ⟨rfl, rfl, rfl⟩ := hcs
    simp only [if_true] at hmm
    subst hmm
    have each : ∀ i, i < len → ∃ o : OpV, (∀ f, f < 7 → W.cell? ((a.add (i * 7)).add f) = o.cells[f]?) ∧ o.name.size ≤ maxLen ∧ o.value.size ≤ maxLen := fun i hi => by
      obtain ⟨cs', h1, h2⟩ := hel i (by omega)
      obtain ⟨o, rfl, z1, z2⟩ := op_of_trod h2
      rw [cellsOp] at h1
      obtain ⟨_, _, hc⟩ := World.cells?_some h1
      exact ⟨o, hc, z1, z2⟩
    haveI : Inhabited OpV := ⟨⟨0, 0, 0, 0, 0, ⟨#[]⟩, ⟨#[]⟩⟩⟩
    obtain ⟨f, hfn⟩ := Deep.choose_lt each
    refine ⟨some a, m, (List.range len).map f, by simp, by simp; omega, fun j hj => ?_, fun o ho => ?_, hbl⟩
    · have hj' : j < len := by simpa using hj
      obtain ⟨hc, _, _⟩ := hfn j hj'
      obtain ⟨b, off, spot⟩ := a
      have h0 := (hfn 0 (by omega)).1 0 (by omega)
      have hspot : spot = none := by simpa [Addr.add] using World.cell?_spot h0
      subst hspot
      have hc' : ∀ q, q < 7 → W.cell? ⟨b, off + j * 7 + q, none⟩ = (f j).cells[q]? := fun q hq => by
        have := hc q hq
        rwa [add_plain, add_plain] at this
      have e : ((List.range len).map f)[j] = f j := by simp
      rw [e]
      exact ⟨b, off, rfl, hbl _ rfl, hc' 0 (by omega), hc' 1 (by omega), hc' 2 (by omega), hc' 3 (by omega), hc' 4 (by omega), hc' 5 (by omega), hc' 6 (by omega)⟩
    · obtain ⟨i, hi, rfl⟩ := List.mem_map.1 ho
      exact ⟨(hfn i (List.mem_range.1 hi)).2.1, (hfn i (List.mem_range.1 hi)).2.2⟩
end Go.Proofs.Ytcpgkalafkhlgae.OpR
namespace Go.Proofs.Ytcpgkalafkhlgae.OpR
open Go.ChangeShapes Go.WideShapes Go.ChangeAt Go.RowKit
set_option linter.unusedVariables false

theorem cellsP : Try.prog.cellsOf 158 = 2 := by kernel_rfl
theorem cellsN : Try.prog.cellsOf 115 = 4 := by kernel_rfl
theorem cellsT : Try.prog.cellsOf 38 = 1 := by kernel_rfl
theorem cellsPS : Try.prog.cellsOf 113 = 1 := by kernel_rfl
theorem cellsNS : Try.prog.cellsOf 36 = 1 := by kernel_rfl
theorem lit64 {x : Int} (h : (Lit.int .i64 x).wf = true) : In64 x := by
  simp [Lit.wf, IntKind.min, IntKind.max, IntKind.signed, IntKind.bits] at h
  unfold In64
  omega

section
variable {H : Type} {enc : TypeId × Value → H} {w : World} {base : Nat} {spare : Nat → Bool} {held : Bool}
set_option maxRecDepth 100000 in
theorem prop_of_trod {fuel : Nat} {cs : List Value} {x : DataW H × List MemPlace} (h : DataW.trod enc Try.prog w base spare held fuel 158 cs = some x) :
    ∃ o : PropV, cs = o.cells ∧ o.key.size ≤ maxLen ∧ o.value.size ≤ maxLen := by
  obtain ⟨xs, n, _, _, hl, hlen, hf⟩ := DataW.trod_struct Try.underlying158 h
  rw [cellsP] at hl
  match cs, hl with
  | [c0, c1], _ =>
  match xs, hlen with
  | [x0, x1], _ =>
  have h0 : DataW.trod enc Try.prog w base spare held n 9 [c0] = some x0 := by
    have h : DataW.trod enc Try.prog w base spare held n 9 (([c0, c1].drop 0).take (Try.prog.cellsOf 9)) = some x0 := hf 0 _ rfl
    rw [cellsS] at h
    exact h
  have h1 : DataW.trod enc Try.prog w base spare held n 9 [c1] = some x1 := by
    have h : DataW.trod enc Try.prog w base spare held n 9 (([c0, c1].drop 1).take (Try.prog.cellsOf 9)) = some x1 := hf 1 _ rfl
    rw [cellsS] at h
    exact h
  obtain ⟨s5, e5, _, z5⟩ := DataW.trod_string Try.underlying9 h0
  obtain ⟨s6, e6, _, z6⟩ := DataW.trod_string Try.underlying9 h1
  cases e5; cases e6
  exact ⟨⟨s5, s6⟩, rfl, z5, z6⟩
end
/-- Props that a slice leads to. -/
def CameP (w : World) (ao : Option Addr) (l : List PropV) : Prop := l.length ≤ maxLen ∧ PropsAt w ao l ∧ SizedP maxLen l
theorem cell_lt {w : World} {b p : Nat} {v : Value} (h : w.cell? ⟨b, p, none⟩ = some v) : b < w.heap.size := by
  rcases Nat.lt_or_ge b w.heap.size with h' | h'
  · exact h'
  · simp [World.cell?, Array.getElem?_eq_none h'] at h
set_option maxRecDepth 100000 in
theorem props_of_trod {H : Type} {enc : TypeId × Value → H} {W : World} {fuel : Nat} {c : Value} {x : DataW H × List MemPlace} (hf : DataW.trod enc Try.prog W 0 (fun _ => true) true fuel 113 [c] = some x) :
    ∃ ao cap l, c = .slice ao l.length cap ∧ CameP W ao l := by
  rcases Deep.open_slice Try.underlying113 hf with ⟨hcs, hx⟩ | ⟨a, len', cap', m, n, D, Pl, hcs, _, hl, hm, hmm, hx, hel⟩
  · cases hcs
    exact ⟨none, 0, [], rfl, by unfold maxLen; simp, fun j hj => absurd hj (by simp), fun o ho => absurd ho (by simp)⟩
  · cases hcs
    simp only [if_true] at hmm
    subst hmm
    have each : ∀ i, i < len' → ∃ o : PropV, (∀ f, f < 2 → W.cell? ((a.add (i * 2)).add f) = o.cells[f]?) ∧ o.key.size ≤ maxLen ∧ o.value.size ≤ maxLen := fun i hi => by
      obtain ⟨cs', h1, h2⟩ := hel i (by omega)
      obtain ⟨o, rfl, z1, z2⟩ := prop_of_trod h2
      rw [cellsP] at h1
      obtain ⟨_, _, hc⟩ := World.cells?_some h1
      exact ⟨o, hc, z1, z2⟩
    haveI : Inhabited PropV := ⟨⟨⟨#[]⟩, ⟨#[]⟩⟩⟩
    obtain ⟨f, hfn⟩ := Deep.choose_lt each
    refine ⟨some a, _, (List.range len').map f, by simp; rfl, by simp; omega, fun j hj => ?_, fun o ho => ?_⟩
    · have hj' : j < len' := by simpa using hj
      obtain ⟨hc, _, _⟩ := hfn j hj'
      obtain ⟨b, off, spot⟩ := a
      have h0 := (hfn 0 (by omega)).1 0 (by omega)
      have hspot : spot = none := by simpa [Addr.add] using World.cell?_spot h0
      subst hspot
      have hc' : ∀ q, q < 2 → W.cell? ⟨b, off + j * 2 + q, none⟩ = (f j).cells[q]? := fun q hq => by
        have := hc q hq
        rwa [add_plain, add_plain] at this
      have e : ((List.range len').map f)[j] = f j := by simp
      rw [e]
      exact ⟨b, off, rfl, cell_lt (hc' 0 (by omega)), hc' 0 (by omega), hc' 1 (by omega)⟩
    · obtain ⟨i, hi, rfl⟩ := List.mem_map.1 ho
      exact ⟨(hfn i (List.mem_range.1 hi)).2.1, (hfn i (List.mem_range.1 hi)).2.2⟩
set_option maxRecDepth 100000 in
theorem nod_of_trod {H : Type} {enc : TypeId × Value → H} {W : World} {fuel : Nat} {cs : List Value} {x : DataW H × List MemPlace} (h : DataW.trod enc Try.prog W 0 (fun _ => true) true fuel 115 cs = some x) :
    ∃ o : NodG, cs = o.cells ∧ In64 o.id ∧ In64 o.parent ∧ o.name.size ≤ maxLen ∧ CameP W o.pao o.props := by
  obtain ⟨xs, n, _, _, hl, hlen, hf⟩ := DataW.trod_struct Try.underlying115 h
  rw [cellsN] at hl
  match cs, hl with
  | [c0, c1, c2, c3], _ =>
  match xs, hlen with
  | [x0, x1, x2, x3], _ =>
  have h0 : DataW.trod enc Try.prog W 0 (fun _ => true) true n 2 [c0] = some x0 := by
    have h : DataW.trod enc Try.prog W 0 (fun _ => true) true n 2 (([c0, c1, c2, c3].drop 0).take (Try.prog.cellsOf 2)) = some x0 := hf 0 _ rfl
    rw [cellsI] at h
    exact h
  have h1 : DataW.trod enc Try.prog W 0 (fun _ => true) true n 2 [c1] = some x1 := by
    have h : DataW.trod enc Try.prog W 0 (fun _ => true) true n 2 (([c0, c1, c2, c3].drop 1).take (Try.prog.cellsOf 2)) = some x1 := hf 1 _ rfl
    rw [cellsI] at h
    exact h
  have h2 : DataW.trod enc Try.prog W 0 (fun _ => true) true n 9 [c2] = some x2 := by
    have h : DataW.trod enc Try.prog W 0 (fun _ => true) true n 9 (([c0, c1, c2, c3].drop 2).take (Try.prog.cellsOf 9)) = some x2 := hf 2 _ rfl
    rw [cellsS] at h
    exact h
  have h3 : DataW.trod enc Try.prog W 0 (fun _ => true) true n 113 [c3] = some x3 := by
    have h : DataW.trod enc Try.prog W 0 (fun _ => true) true n 113 (([c0, c1, c2, c3].drop 3).take (Try.prog.cellsOf 113)) = some x3 := hf 3 _ rfl
    rw [cellsPS] at h
    exact h
  obtain ⟨n0, e0, _, w0⟩ := DataW.trod_int Try.underlying2 h0
  obtain ⟨n1, e1, _, w1⟩ := DataW.trod_int Try.underlying2 h1
  obtain ⟨s2, e2, _, z2⟩ := DataW.trod_string Try.underlying9 h2
  obtain ⟨ao, cap, l, e3, hp⟩ := props_of_trod h3
  cases e0; cases e1; cases e2; subst e3
  exact ⟨⟨n0, n1, s2, l, ao, cap⟩, rfl, lit64 w0, lit64 w1, z2, hp⟩
/-- A tree that comes in. -/
def CameTree (w : World) (ao : Option Addr) (l : List NodG) : Prop := l.length ≤ maxLen ∧ NodesAt w ao l ∧ (∀ n ∈ l, Sized1 maxLen n) ∧ Rng l
set_option maxRecDepth 100000 in
theorem cameTree {H : Type} {enc : TypeId × Value → H} {W : World} {base : Nat} {v : Value} {d : DataW H} {p : List MemPlace} (hv : Value.okWide Try.prog W .any base 38 v) (h : DataW.Trod enc Try.prog W 0 (fun _ => true) true 38 v d p) :
    ∃ ao cap l, v = .agg #[.slice ao l.length cap] ∧ CameTree W ao l := by
  obtain ⟨fuel, hf⟩ := h
  simp only [Value.okWide, Try.underlying38] at hv
  obtain ⟨cs, rfl, _, _⟩ := hv
  obtain ⟨xs, n, _, _, hl, hlen, hfd⟩ := DataW.trod_struct Try.underlying38 hf
  rw [cellsT] at hl
  have hcl : (Value.agg cs).cells.toList = cs.toList := by simp [Value.cells]
  rw [hcl] at hl hfd
  obtain ⟨c0, hc0⟩ : ∃ c0, cs.toList = [c0] := by
    match e : cs.toList, hl with
    | [c0], _ => exact ⟨c0, rfl⟩
  match xs, hlen with
  | [x0], _ =>
  have h0 : DataW.trod enc Try.prog W 0 (fun _ => true) true n 36 [c0] = some x0 := by
    have h : DataW.trod enc Try.prog W 0 (fun _ => true) true n 36 ((cs.toList.drop 0).take (Try.prog.cellsOf 36)) = some x0 := hfd 0 _ rfl
    rw [cellsNS, hc0] at h
    exact h
  have hcs : cs = #[c0] := by rw [← Array.toArray_toList (xs := cs), hc0]
  subst hcs
  rcases Deep.open_slice Try.underlying36 h0 with ⟨hcs, hx⟩ | ⟨a, len', cap', m, n', D, Pl, hcs, _, hl', hm, hmm, hx, hel⟩
  · cases hcs
    exact ⟨none, 0, [], rfl, by unfold maxLen; simp, fun j hj => absurd hj (by simp), fun o ho => absurd ho (by simp), fun o ho => absurd ho (by simp)⟩
  · cases hcs
    simp only [if_true] at hmm
    subst hmm
    have each : ∀ i, i < len' → ∃ o : NodG, (∀ f, f < 4 → W.cell? ((a.add (i * 4)).add f) = o.cells[f]?) ∧ In64 o.id ∧ In64 o.parent ∧ o.name.size ≤ maxLen ∧ CameP W o.pao o.props := fun i hi => by
      obtain ⟨cs', h1, h2⟩ := hel i (by omega)
      obtain ⟨o, rfl, z⟩ := nod_of_trod h2
      rw [cellsN] at h1
      obtain ⟨_, _, hc⟩ := World.cells?_some h1
      exact ⟨o, hc, z⟩
    haveI : Inhabited NodG := ⟨⟨0, 0, ⟨#[]⟩, [], none, 0⟩⟩
    obtain ⟨f, hfn⟩ := Deep.choose_lt each
    refine ⟨some a, _, (List.range len').map f, by simp; rfl, by simp; omega, fun j hj => ?_, fun o ho => ?_, fun o ho => ?_⟩
    · have hj' : j < len' := by simpa using hj
      obtain ⟨hc, _, _, _, hp⟩ := hfn j hj'
      obtain ⟨b, off, spot⟩ := a
      have h0 := (hfn 0 (by omega)).1 0 (by omega)
      have hspot : spot = none := by simpa [Addr.add] using World.cell?_spot h0
      subst hspot
      have hc' : ∀ q, q < 4 → W.cell? ⟨b, off + j * 4 + q, none⟩ = (f j).cells[q]? := fun q hq => by
        have := hc q hq
        rwa [add_plain, add_plain] at this
      have e : ((List.range len').map f)[j] = f j := by simp
      rw [e]
      exact ⟨b, off, rfl, cell_lt (hc' 0 (by omega)), ⟨hc' 0 (by omega), hc' 1 (by omega), hc' 2 (by omega), hc' 3 (by omega)⟩, hp.2.1⟩
    · obtain ⟨i, hi, rfl⟩ := List.mem_map.1 ho
      obtain ⟨_, _, _, z, hp⟩ := hfn i (List.mem_range.1 hi)
      exact ⟨z, hp.1, hp.2.2⟩
    · obtain ⟨i, hi, rfl⟩ := List.mem_map.1 ho
      obtain ⟨_, z1, z2, _, _⟩ := hfn i (List.mem_range.1 hi)
      exact ⟨z1, z2⟩
end Go.Proofs.Ytcpgkalafkhlgae.OpR
namespace Go.Proofs.Ytcpgkalafkhlgae.OpR
open Go.ChangeShapes Go.WideShapes Go.ChangeAt Go.RowKit
set_option linter.unusedVariables false

theorem nodOf_bare (l : List NodG) (x : Int) : nodOf (l.map NodG.bare) x = (nodOf l x).map NodG.bare := by
  unfold nodOf
  rw [List.find?_map]
  rfl
theorem par_bare (l : List NodG) : par (l.map NodG.bare) = par l := by
  funext x
  unfold par
  rw [nodOf_bare, Option.map_map]
  rfl
theorem nodOk_bare (l : List NodG) (n : NodG) : nodOk (l.map NodG.bare) n.bare = nodOk l n := by
  unfold nodOk
  rw [par_bare, List.length_map]
  rfl
theorem risesN_bare (l : List NodG) : risesN (l.map NodG.bare) = risesN l := by
  unfold risesN
  rw [List.length_map]
  congr 1
  funext i
  unfold nodRise
  by_cases h : i + 1 < l.length
  · rw [dif_pos (by simpa using h), dif_pos h]
    simp [NodG.bare]
  · rw [dif_neg (by simpa using h), dif_neg h]
theorem tree_bare (l : List NodG) : treeRight (l.map NodG.bare) = treeRight l := by
  unfold treeRight
  rw [risesN_bare, List.length_map, List.all_map]
  congr 2
  congr 1
  funext n
  exact nodOk_bare l n
theorem tree_alike {l d : List NodG} (h : d.map NodG.bare = l.map NodG.bare) : treeRight d = treeRight l := by
  rw [← tree_bare d, h, tree_bare]
theorem bare_mem {l d : List NodG} (h : d.map NodG.bare = l.map NodG.bare) {n : NodG} (hn : n ∈ d) : ∃ m ∈ l, n.bare = m.bare := by
  have : n.bare ∈ d.map NodG.bare := List.mem_map.2 ⟨n, hn, rfl⟩
  rw [h] at this
  obtain ⟨m, hm, e⟩ := List.mem_map.1 this
  exact ⟨m, hm, e.symm⟩
theorem bare_eq {n m : NodG} (h : n.bare = m.bare) : n.id = m.id ∧ n.parent = m.parent ∧ n.name = m.name ∧ n.props = m.props := by
  simp only [NodG.bare, NodG.mk.injEq, and_true] at h
  exact h
theorem bare_len {l d : List NodG} (h : d.map NodG.bare = l.map NodG.bare) : d.length = l.length := by simpa using congrArg List.length h
theorem rng_alike {l d : List NodG} (h : d.map NodG.bare = l.map NodG.bare) (hg : Rng l) : Rng d := fun n hn => by
  obtain ⟨m, hm, e⟩ := bare_mem h hn
  obtain ⟨e1, e2, _, _⟩ := bare_eq e
  rw [e1, e2]
  exact hg m hm
theorem sized_alike {k : Nat} {l d : List NodG} (h : d.map NodG.bare = l.map NodG.bare) (hg : ∀ n ∈ l, Sized1 k n) : ∀ n ∈ d, Sized1 k n := fun n hn => by
  obtain ⟨m, hm, e⟩ := bare_mem h hn
  obtain ⟨_, _, e3, e4⟩ := bare_eq e
  have := hg m hm
  unfold Sized1 at *
  rw [e3, e4]
  exact this
end Go.Proofs.Ytcpgkalafkhlgae.OpR
namespace Go.Proofs.Ytcpgkalafkhlgae.OpR
open Go.ChangeShapes Go.WideShapes Go.ChangeAt Go.RowKit
set_option linter.unusedVariables false

theorem Box1.other {w c : World} {g : Nat} {v : Value} {T : TypeId} (h : Box1 w c g v T) (o : Obj) : Box1 w (c.alloc o) g v T := h.step ((Below.refl _ _).alloc (Nat.le_refl _) _)
set_option maxRecDepth 100000 in
set_option maxHeartbeats 1000000 in
theorem law_treeRight (w : World) (ao : Option Addr) (cap : Nat) (l : List NodG) (hC : CameTree w ao l) :
    Calls Try.prog 5 #[.agg #[.slice ao l.length cap]] w fun e w' => e = .returned (.bool true) ∧ Below w.heap.size w w' := by
  obtain ⟨hl, hA, hS, hG⟩ := hC
  have hsz := fun W (hW : Below w.heap.size w W) => szTree_any l ao cap W hl (hA.stays hW) hS
  have HSZ := hide hsz
  have HA := hide hA
  have HG := hide hG
  have HB0 := hide (Box1.start w (.slice ao l.length cap) 38)
  have m1 : Hid True := ⟨trivial⟩
  have m2 : Hid True := ⟨trivial⟩
  clear hsz hA hS hG hl
  go_enter Try.func5, Try.ntmps5
  go_wp2_with (first | (go_at_call 20; refine (HSZ.out _ HB0.out.below).mono ?_; rintro e w1 ⟨m, rfl, hm0, hm1, hm2, hb1⟩; have HM := hide hm2; have hbx := HB0.out.step hb1; have HB1 := hide hbx; have hc := hbx.cell; clear hm2 hb1 hbx) | (go_at_call 22; clear m1; obtain ⟨hl2, hs2⟩ := HM.out (by omega); have HS2 := hide hs2; clear hs2; refine (toTree_any l ao cap w1 hl2 (HA.out.stays HB1.out.below) (fun n hn => (HS2.out n hn).2.1)).mono ?_; rintro e w2 ⟨d2, g2, rfl, hd2, hbr2, hb2⟩; have h3 := sTree_any d2 _ d2.length w2 (by rw [bare_len hbr2]; exact hl2) hd2.nodesAt (sized_alike hbr2 HS2.out); rw [tree_alike hbr2] at h3; have H3 := hide h3; have hbx := HB1.out.step hb2; have HB2 := hide hbx; clear hc hd2 hbr2 hb2 h3; have hc := hbx.cell; clear hbx) | (go_at_call 21; refine H3.out.mono ?_; rintro e w3 ⟨rfl, hb3⟩; have hbx := HB2.out.step hb3; have HB3 := hide hbx; clear hc hb3; have hc := hbx.cell; clear hbx) | (go_at_call 22; clear m2; refine (toTree_any l ao cap w3 hl2 (HA.out.stays HB3.out.below) (fun n hn => (HS2.out n hn).2.1)).mono ?_; rintro e w4 ⟨d4, g4, rfl, hd4, hbr4, hb4⟩; have HD4 := hide hd4; have HR4 := hide hbr4; have hbx := HB3.out.step hb4; have HB4 := hide hbx; clear hc hd4 hbr4 hb4; have hc := hbx.cell; clear hbx) | (go_at_call 23; have h5 := iTree_any d4 _ d4.length _ (by rw [bare_len HR4.out]; exact hl2) (rng_alike HR4.out HG.out) (HD4.out.stays ((Below.refl _ _).alloc (Nat.le_refl _) (.cells #[.slice (some ⟨g4, 0, none⟩) d4.length d4.length] 43))).nodesAt (sized_alike HR4.out HS2.out); rw [tree_alike HR4.out] at h5; refine h5.mono ?_; clear h5; rintro e w5 ⟨rfl, hb5⟩; have hbx := (HB4.out.other (.cells #[.slice (some ⟨g4, 0, none⟩) d4.length d4.length] 43)).step hb5; have HB5 := hide hbx; have hby := (Box1.start w4 (.slice (some ⟨g4, 0, none⟩) d4.length d4.length) 43).step hb5; have HX5 := hide hby; have HD5 := hide ((HD4.out.stays ((Below.refl _ _).alloc (Nat.le_refl _) (.cells #[.slice (some ⟨g4, 0, none⟩) d4.length d4.length] 43))).stays hb5); clear hc hb5; have hc := hbx.cell; have hcx := hby.cell; clear hbx hby))
  · go_ret
    exact ⟨rfl, HB1.out.below⟩
  · go_region_with (first | (go_at_call 22; refine (toTree_any l ao cap _ hl2 (HA.out.stays HB5.out.drew.below) (fun n hn => (HS2.out n hn).2.1)).mono ?_; rintro e w6 ⟨d6, g6, rfl, hd6, hbr6, hb6⟩; have HD6 := hide hd6; have HR6 := hide hbr6; have HB6 := hide (HB5.out.drew.step hb6); have HD5' := hide (HD5.out.stays ((Below.refl _ _).drew.trans hb6)); have hcx6 := (HX5.out.drew.step hb6).cell; clear hd6 hbr6 hb6) | (go_at_call 24; refine (eqTree_same d4 d6 _ _ _ _ w6 (HR6.out.trans HR4.out.symm) (by rw [bare_len HR4.out]; unfold maxLen; omega) (fun n hn => by have := (sized_alike HR4.out HS2.out n hn).2.1; unfold maxLen; omega) HD5'.out.nodesAt HD6.out.nodesAt).mono ?_; rintro e w7 ⟨rfl, hb7⟩))
    all_goals (
      go_wp2
      go_ret
      exact ⟨rfl, (HB6.out.step hb7).below⟩)
end Go.Proofs.Ytcpgkalafkhlgae.OpR
namespace Go.Proofs.Ytcpgkalafkhlgae.OpR
open Go.ChangeShapes Go.WideShapes Go.ChangeAt Go.RowKit
set_option linter.unusedVariables false

theorem ab_stable {f : Int → Option Int} (h0 : f 0 = none) (h1 : f 1 = none) (y : Int) : ∀ {k : Nat} {x : Int}, endsF f k x = true → abF f y (k + 1) x = abF f y k x := by
  intro k
  induction k with
  | zero => intro x h; simp [endsF] at h
  | succ k ih =>
    intro x h
    obtain ⟨j, e, hc⟩ := ends_cases h
    obtain rfl := Nat.succ.inj e
    rcases hc with hx | ⟨_, _, z, hz, hk⟩
    · have hn : f x = none := by rcases hx with rfl | rfl <;> assumption
      simp [abF, hn]
    · show (if x = y then true else match f x with | none => false | some z => abF f y (k + 1) z) = (if x = y then true else match f x with | none => false | some z => abF f y k z)
      rw [hz]
      simp only
      rw [ih hk]
theorem ab_place {f : Int → Option Int} (h0 : f 0 = none) (h1 : f 1 = none) {y : Int} : ∀ {k j : Nat} {x : Int}, endsF f j x = true → abF f y k x = true → y = 0 ∨ y = 1 ∨ ∃ z, f y = some z := by
  intro k
  induction k with
  | zero => intro j x _ h; simp [abF] at h
  | succ k ih =>
    intro j x he h
    obtain ⟨i, _, hc⟩ := ends_cases he
    by_cases hxy : x = y
    · subst hxy
      rcases hc with (hx | hx) | ⟨_, _, z, hz, _⟩
      · exact .inl hx
      · exact .inr (.inl hx)
      · exact .inr (.inr ⟨z, hz⟩)
    · rcases hc with hx | ⟨_, _, z, hz, hk⟩
      · have hn : f x = none := by rcases hx with rfl | rfl <;> assumption
        simp [abF, hxy, hn] at h
      · exact ih hk (by simpa [abF, hxy, hz] using h)
/-- How many steps the way up has. -/
def stepsF (f : Int → Option Int) : Nat → Int → Nat
  | 0, _ => 0
  | k + 1, x => if x = 0 ∨ x = 1 then 0 else match f x with
    | none => 0
    | some y => stepsF f k y + 1
theorem steps_stable {f : Int → Option Int} : ∀ {k : Nat} {x : Int}, endsF f k x = true → stepsF f (k + 1) x = stepsF f k x := by
  intro k
  induction k with
  | zero => intro x h; simp [endsF] at h
  | succ k ih =>
    intro x h
    obtain ⟨j, e, hc⟩ := ends_cases h
    obtain rfl := Nat.succ.inj e
    rcases hc with hx | ⟨hx0, hx1, z, hz, hk⟩
    · simp [stepsF, hx]
    · show (if x = 0 ∨ x = 1 then 0 else match f x with | none => 0 | some y => stepsF f (k + 1) y + 1) = (if x = 0 ∨ x = 1 then 0 else match f x with | none => 0 | some y => stepsF f k y + 1)
      rw [hz]
      simp only
      rw [ih hk]
def stepsV (f : Int → Option Int) (N : Nat) (v : Value) : Nat := stepsF f N (intOf v)
def placeB (l : List NodG) (x : Int) : Bool := decide (x = 0) || (decide (x = 1) || (nodOf l x).isSome)
theorem tree_par {l : List NodG} (h : TreeR l) : par l 0 = none ∧ par l 1 = none := by
  have h2 : ∀ n ∈ l, isIn n.id 2 1000000 = true := fun n hn => by have := h.2.2 n hn; unfold nodOk at this; rw [Bool.and_eq_true] at this; exact this.1
  exact ⟨by unfold par; rw [no_low h2 (x := 0) (by omega)]; rfl, by unfold par; rw [no_low h2 (x := 1) (by omega)]; rfl⟩
theorem tree_ends {l : List NodG} (h : TreeR l) {x : Int} {n : NodG} (hn : nodOf l x = some n) : endsF (par l) (l.length + 1) x = true := by
  obtain ⟨hm, rfl⟩ := nodOf_some hn
  have := h.2.2 n hm
  unfold nodOk at this
  rw [Bool.and_eq_true, Bool.and_eq_true, Bool.and_eq_true] at this
  exact this.2.2.2
def aboveB (l : List NodG) (x y : Int) : Bool := treeRight l && ((nodOf l x).isSome && abF (par l) y (l.length + 1) x)

set_option maxRecDepth 100000 in
set_option maxHeartbeats 400000 in
theorem sPlace_any (l : List NodG) (ao : Option Addr) (cap : Nat) (x : Int) (w : World) (hl : l.length ≤ 1048576) (hA : NodesAt w ao l) :
    Calls Try.prog 73 #[.agg #[.slice ao l.length cap], .int .i64 x] w fun e w' => e = .returned (.bool (placeB l x)) ∧ Below w.heap.size w w' := by
  have hat := fun x W (hW : Below w.heap.size w W) => sAt_any l ao cap x W (by unfold maxLen; omega) (hA.stays hW)
  have HT := hide hat
  have H1 := hide (Box1.start w (.slice ao l.length cap) 43)
  clear hA hat
  by_cases h0 : x = 0
  · have HF : Hid (placeB l x = true) := ⟨by simp [placeB, h0]⟩
    have b0 : (x == 0) = true := beq_iff_eq.2 h0
    clear h0
    go_enter Try.func73, Try.ntmps73
    go_wp2
    go_ret
    exact ⟨ret_bool (by rw [HF.out]), H1.out.below⟩
  · have b0 : (x == 0) = false := beq_eq_false_iff_ne.2 h0
    by_cases h1 : x = 1
    · have HF : Hid (placeB l x = true) := ⟨by simp [placeB, h1]⟩
      have b1 : (x == 1) = true := beq_iff_eq.2 h1
      clear h0 h1
      go_enter Try.func73, Try.ntmps73
      go_wp2
      go_ret
      exact ⟨ret_bool (by rw [HF.out]), H1.out.below⟩
    · have b1 : (x == 1) = false := beq_eq_false_iff_ne.2 h1
      rcases at_cases l x with ⟨ea, en⟩ | ⟨j, hj, ea, en, _⟩
      · have HF : Hid (placeB l x = false) := ⟨by simp [placeB, h0, h1, en]⟩
        have HEA := hide ea
        clear ea en h0 h1
        go_enter Try.func73, Try.ntmps73
        go_wp2_with (first | (go_at_call 72; refine (HT.out x _ H1.out.below).mono ?_; rintro e w1 ⟨rfl, hb1⟩; rw [HEA.out]))
        go_ret
        exact ⟨ret_bool (by rw [HF.out]), (H1.out.step hb1).below⟩
      · have HF : Hid (placeB l x = true) := ⟨by simp [placeB, en]⟩
        have HEA := hide ea
        have hj0 : (0 : Int) ≤ (j : Int) := by omega
        clear ea en h0 h1
        go_enter Try.func73, Try.ntmps73
        go_wp2_with (first | (go_at_call 72; refine (HT.out x _ H1.out.below).mono ?_; rintro e w1 ⟨rfl, hb1⟩; rw [HEA.out]))
        go_ret
        exact ⟨ret_bool (by rw [HF.out]), (H1.out.step hb1).below⟩

set_option maxRecDepth 100000 in
set_option maxHeartbeats 400000 in
theorem sUp_any (l : List NodG) (ao : Option Addr) (cap : Nat) (x y : Int) (w : World) (hl : l.length ≤ 1048576) (hA : NodesAt w ao l) (h0 : par l 0 = none) (h1 : par l 1 = none) (he : endsF (par l) (l.length + 1) x = true) :
    Calls Try.prog 74 #[.agg #[.slice ao l.length cap], .int .i64 x, .int .i64 y] w fun e w' => e = .returned (.bool (abF (par l) y (l.length + 1) x)) ∧ Below w.heap.size w w' := by
  have hat := fun x W (hW : Below w.heap.size w W) => sAt_any l ao cap x W (by unfold maxLen; omega) (hA.stays hW)
  have HT := hide hat
  have HA : Hid (NodesAt w ao l) := ⟨hA⟩
  have H01 := hide (And.intro h0 h1)
  have HE0 := hide he
  clear hA hat h0 h1 he
  go_enter Try.func74, Try.ntmps74
  go_wp2
  go_loopw [1] (fun z wr => ∃ (v : Int), z = .int .i64 v ∧ endsF (par l) (l.length + 1) v = true ∧ abF (par l) y (l.length + 1) x = abF (par l) y (l.length + 1) v ∧ Box1 w wr w.heap.size (.slice ao l.length cap) 43) (fun z _ => stepsV (par l) (l.length + 1) z)
  case atStart => exact ⟨x, rfl, HE0.out, rfl, Box1.start w _ _⟩
  case round =>
    obtain ⟨v, rfl, he, hab, hbx⟩ := hrel
    have HE := hide he
    have HAb := hide hab
    have HB := hide hbx
    have hc := hbx.cell
    clear he hab hbx
    by_cases hvy : v = y
    · have HF : Hid (abF (par l) y (l.length + 1) x = true) := ⟨by rw [HAb.out]; simp [abF, hvy]⟩
      have b0 : (v == y) = true := beq_iff_eq.2 hvy
      clear hvy
      go_wp2
      go_ret
      exact ⟨ret_bool (by rw [HF.out]), HB.out.below⟩
    · have b0 : (v == y) = false := beq_eq_false_iff_ne.2 hvy
      rcases at_cases l v with ⟨ea, en⟩ | ⟨j, hj, ea, en, _⟩
      · have HF : Hid (abF (par l) y (l.length + 1) x = false) := ⟨by rw [HAb.out]; simp [abF, hvy, par, en]⟩
        have HEA := hide ea
        clear ea en hvy
        go_wp2_with (first | (go_at_call 72; refine (HT.out v wr HB.out.below).mono ?_; rintro e w1 ⟨rfl, hb1⟩; rw [HEA.out]))
        go_ret
        exact ⟨ret_bool (by rw [HF.out]), (HB.out.step hb1).below⟩
      · have HEA := hide ea
        have hpv : par l v = some l[j].parent := by unfold par; rw [en]; rfl
        have HN : Hid (endsF (par l) l.length l[j].parent = true ∧ v ≠ 0 ∧ v ≠ 1) := ⟨by
          obtain ⟨i, e, hx | ⟨e0, e1, z, hz, hk⟩⟩ := ends_cases HE.out
          · rcases hx with rfl | rfl
            · rw [H01.out.1] at hpv; cases hpv
            · rw [H01.out.2] at hpv; cases hpv
          · obtain rfl := Nat.succ.inj e
            rw [hpv] at hz
            cases hz
            exact ⟨hk, e0, e1⟩⟩
        have HF : Hid (abF (par l) y (l.length + 1) x = abF (par l) y (l.length + 1) l[j].parent) := ⟨by
          rw [HAb.out, ab_stable H01.out.1 H01.out.2 y HN.out.1]
          simp [abF, hvy, hpv]⟩
        have HM : Hid (stepsV (par l) (l.length + 1) (.int .i64 l[j].parent) < stepsV (par l) (l.length + 1) (.int .i64 v)) := ⟨by
          show stepsF (par l) (l.length + 1) l[j].parent < stepsF (par l) (l.length + 1) v
          rw [steps_stable HN.out.1]
          have e : stepsF (par l) (l.length + 1) v = stepsF (par l) l.length l[j].parent + 1 := by simp [stepsF, HN.out.2.1, HN.out.2.2, hpv]
          omega⟩
        obtain ⟨b, off, rfl, hlt, ho, _⟩ := HA.out j hj
        have hj0 : (0 : Int) ≤ (j : Int) := by omega
        have hj1 : (j : Int) < (l.length : Int) := by omega
        have HO := hide ho
        clear ea en hvy ho hpv
        go_wp2_with (first | (go_at_call 72; refine (HT.out v wr HB.out.below).mono ?_; rintro e w1 ⟨rfl, hb1⟩; rw [HEA.out]; have hB1 := HB.out.step hb1; have hc1 := hB1.cell; obtain ⟨c0, c1, c2, c3⟩ := HO.out.block (hB1.below.block b hlt); clear hc))
        go_roundw
        case rel => exact ⟨l[j].parent, rfl, ends_mono (Nat.le_succ _) HN.out.1, HF.out, hB1⟩
        case measure => exact HM.out

set_option maxRecDepth 100000 in
set_option maxHeartbeats 1000000 in
theorem sAbove_any (l : List NodG) (ao : Option Addr) (cap : Nat) (x y : Int) (w : World) (hl : l.length ≤ 1048576) (hA : NodesAt w ao l) (hS : ∀ n ∈ l, Sized1 1048576 n) :
    Calls Try.prog 33 #[.agg #[.slice ao l.length cap], .int .i64 x, .int .i64 y] w fun e w' => e = .returned (.bool (aboveB l x y)) ∧ Below w.heap.size w w' := by
  have hat := fun W (hW : Below w.heap.size w W) => sAt_any l ao cap x W (by unfold maxLen; omega) (hA.stays hW)
  have htr := fun W (hW : Below w.heap.size w W) => sTree_any l ao cap W hl (hA.stays hW) hS
  have hpl := fun W (hW : Below w.heap.size w W) => sPlace_any l ao cap y W hl (hA.stays hW)
  have HT := hide hat
  have H1 := hide (Box1.start w (.slice ao l.length cap) 43)
  have HA := hide hA
  clear hA hat hS
  cases ht : treeRight l
  · have HF : Hid (aboveB l x y = false) := ⟨by simp [aboveB, ht]⟩
    simp only [ht] at htr
    clear hpl
    go_enter Try.func33, Try.ntmps33
    go_wp2_with (first | (go_at_call 21; refine (htr _ H1.out.below).mono ?_; rintro e w1 ⟨rfl, hb1⟩))
    go_ret
    exact ⟨ret_bool (by rw [HF.out]), (H1.out.step hb1).below⟩
  · have HTR := hide ((treeR_iff l).1 ht)
    simp only [ht] at htr
    rcases at_cases l x with ⟨ea, en⟩ | ⟨j, hj, ea, en, _⟩
    · have HF : Hid (aboveB l x y = false) := ⟨by simp [aboveB, en]⟩
      have HEA := hide ea
      clear ea en hpl ht
      go_enter Try.func33, Try.ntmps33
      go_wp2_with (first | (go_at_call 21; refine (htr _ H1.out.below).mono ?_; rintro e w1 ⟨rfl, hb1⟩; have hbx := H1.out.step hb1; have H2 := hide hbx; have hc := hbx.cell; clear hbx hb1) | (go_at_call 72; refine (HT.out _ H2.out.below).mono ?_; rintro e w2 ⟨rfl, hb2⟩; rw [HEA.out]))
      go_ret
      exact ⟨ret_bool (by rw [HF.out]), (H2.out.step hb2).below⟩
    · have HEA := hide ea
      have hj0 : (0 : Int) ≤ (j : Int) := by omega
      have HEN := hide (tree_ends HTR.out en)
      cases hp : placeB l y
      · have HF : Hid (aboveB l x y = false) := ⟨by
          have : abF (par l) y (l.length + 1) x = false := by
            cases e : abF (par l) y (l.length + 1) x with
            | false => rfl
            | true =>
              obtain ⟨p0, p1⟩ := tree_par HTR.out
              rcases ab_place p0 p1 HEN.out e with h | h | ⟨z, h⟩
              · simp [placeB, h] at hp
              · simp [placeB, h] at hp
              · unfold par at h
                obtain ⟨n, hn, _⟩ := Option.map_eq_some_iff.1 h
                simp [placeB, hn] at hp
          simp [aboveB, this]⟩
        simp only [hp] at hpl
        clear ea en ht
        go_enter Try.func33, Try.ntmps33
        go_wp2_with (first | (go_at_call 21; refine (htr _ H1.out.below).mono ?_; rintro e w1 ⟨rfl, hb1⟩; have hbx := H1.out.step hb1; have H2 := hide hbx; have hc := hbx.cell; clear hbx hb1) | (go_at_call 72; refine (HT.out _ H2.out.below).mono ?_; rintro e w2 ⟨rfl, hb2⟩; rw [HEA.out]; have hbx := H2.out.step hb2; have H3 := hide hbx; have hc2 := hbx.cell; clear hbx hb2 hc) | (go_at_call 73; refine (hpl _ H3.out.below).mono ?_; rintro e w3 ⟨rfl, hb3⟩))
        go_ret
        exact ⟨ret_bool (by rw [HF.out]), (H3.out.step hb3).below⟩
      · have HF : Hid (aboveB l x y = abF (par l) y (l.length + 1) x) := ⟨by simp [aboveB, ht, en]⟩
        have hup := fun W (hW : Below w.heap.size w W) => sUp_any l ao cap x y W hl (HA.out.stays hW) (tree_par HTR.out).1 (tree_par HTR.out).2 HEN.out
        have HUP := hide hup
        simp only [hp] at hpl
        clear ea en ht hup
        go_enter Try.func33, Try.ntmps33
        go_wp2_with (first | (go_at_call 21; refine (htr _ H1.out.below).mono ?_; rintro e w1 ⟨rfl, hb1⟩; have hbx := H1.out.step hb1; have H2 := hide hbx; have hc := hbx.cell; clear hbx hb1) | (go_at_call 72; refine (HT.out _ H2.out.below).mono ?_; rintro e w2 ⟨rfl, hb2⟩; rw [HEA.out]; have hbx := H2.out.step hb2; have H3 := hide hbx; have hc2 := hbx.cell; clear hbx hb2 hc) | (go_at_call 73; refine (hpl _ H3.out.below).mono ?_; rintro e w3 ⟨rfl, hb3⟩; have hbx := H3.out.step hb3; have H4 := hide hbx; have hc3 := hbx.cell; clear hbx hb3 hc2) | (go_at_call 74; refine (HUP.out _ H4.out.below).mono ?_; rintro e w4 ⟨rfl, hb4⟩))
        go_ret
        exact ⟨ret_bool (by rw [HF.out]), (H4.out.step hb4).below⟩
end Go.Proofs.Ytcpgkalafkhlgae.OpR
namespace Go.Proofs.Ytcpgkalafkhlgae.OpR
open Go.ChangeShapes Go.WideShapes Go.ChangeAt Go.RowKit Go.Shelf
set_option linter.unusedVariables false
attribute [local go_sem] Oper.semAt_some

/-- What has come of the map, while the rest is still to come. -/
structure CollK (m : List (Int × NodG)) (left : Lit → Bool) (ps : List (Int × NodG)) : Prop where
  once : (ps.map Prod.fst).Nodup
  keys : ∀ x, x ∈ ps.map Prod.fst ↔ ((kvAt m x).isSome = true ∧ left (.int .i64 x) = false)
  vals : ∀ p ∈ ps, kvAt m p.1 = some p.2
theorem CollK.start (m : List (Int × NodG)) : CollK m (Maps.has (kvD m)) [] := ⟨by simp, fun x => by rw [kvD_has]; cases (kvAt m x).isSome <;> simp, by simp⟩
theorem CollK.step {m : List (Int × NodG)} {left : Lit → Bool} {ps : List (Int × NodG)} (h : CollK m left ps) {x : Int} {n : NodG} (hl : left (.int .i64 x) = true) (hn : kvAt m x = some n) : CollK m (fun z => left z && !z.sameKey (.int .i64 x)) (ps ++ [(x, n)]) := by
  refine ⟨?_, fun y => ?_, fun p hp => ?_⟩
  · rw [List.map_append, List.nodup_append]
    refine ⟨h.once, by simp, fun a ha b hb => ?_⟩
    simp only [List.map_cons, List.map_nil, List.mem_singleton] at hb
    subst hb
    intro e
    subst e
    have := ((h.keys a).1 ha).2
    rw [hl] at this
    cases this
  · rw [List.map_append, List.mem_append, h.keys y]
    simp only [List.map_cons, List.map_nil, List.mem_singleton, same_int]
    by_cases e : y = x
    · subst e; simp [hn]
    · simp [e]
  · rcases List.mem_append.1 hp with hp | hp
    · exact h.vals p hp
    · obtain rfl := List.mem_singleton.1 hp
      exact hn
/-- All have come. -/
def AllK (m : List (Int × NodG)) (xs : List NodG) : Prop := ∃ ps : List (Int × NodG), (ps.map Prod.fst).Nodup ∧ (∀ x, x ∈ ps.map Prod.fst ↔ (kvAt m x).isSome = true) ∧ (∀ p ∈ ps, kvAt m p.1 = some p.2) ∧ xs = ps.map Prod.snd

set_option maxRecDepth 100000 in
set_option maxHeartbeats 1000000 in
theorem values1_in (n : Nat) (hn : 1 ≤ n) (l Bm b : Nat) (m : List (Int × NodG)) (J Jx : List NodG → World → Prop)
    (hY : ∀ pre x W, J pre W → pre.length < m.length → YieldAt Fence.wide (n - 1) Try.prog l #[x.agg] W fun e W' =>
      (e = .returned (.bool true) ∧ J (pre ++ [x]) W' ∧ KeepsWalks W W') ∨ (e = .returned (.bool false) ∧ Jx (pre ++ [x]) W'))
    (W : World) (hJ : AbidesFrom W.heap.size J) (hm : W.cell? ⟨Bm, 0, none⟩ = some (.map (some b))) (hown : MapAt W b m) (h0 : J [] W) :
    CallsIn Fence.wide n Try.prog 123 #[.func (.yield l) #[] #[], .pointer (some ⟨Bm, 0, none⟩)] W fun e W' => (∃ v, e = .returned v) ∧
      ((∃ xs, AllK m xs ∧ J xs W') ∨ (∃ pre, True ∧ Jx pre W')) := by
  refine callsIn_of_wp Try.func123 rfl trivial ?_ rfl
  simp only [Try.ntmps123, List.size_toArray, List.length_cons, List.length_nil, Nat.reduceAdd, Nat.reduceSub, Array.replicate_succ, Array.replicate_zero, List.push_toArray, List.append_toArray, List.nil_append, List.cons_append]
  gi_wp2_with (first
    | (gi_at_range; refine wpListIn_range_own _ rfl _ 87 rfl 2 79 lawK Try.underlying87 _ b m.length _ rfl hown ?_; intro w0 hrg0 hg0 hs0)
    | gi_in)
  go_frame
  gi_loopw [4] (fun _ wr => ∃ (left : Lit → Bool) (cnt : Nat) (ps : List (Int × NodG)), wr.ranges Try.prog 2 rdN b W.heap.size m.length (kvD m) left cnt ∧ ps.length + cnt ≤ m.length ∧ CollK m left ps ∧ J (ps.map Prod.snd) wr)
    (fun _ wr => wr.rangeLeft b W.heap.size)
  case atStart =>
    exact ⟨_, _, [], hrg0, by simp [kvD_size], CollK.start m, hJ [] W w0 none h0 hg0 (fun r e => by cases e)⟩
  case round =>
    obtain ⟨left, cnt, ps, hrg, hcs, hC, hJs⟩ := hrel
    gi_wp2_with (first
      | (gi_at_next; refine wpListIn_next_ranges _ rfl _ rfl 2 lawK rdN (Value.int .i64) (fun v : Value => v) (fun key kl hk => by obtain ⟨x, hx, _⟩ := Maps.keyOf_int_inv Try.underlying2 hk; exact ⟨x, hx⟩) (fun v y hv => ⟨v, rfl⟩) b W.heap.size m.length _ _ _ rfl hrg ?_ ?_)
      | gi_in)
    · intro hc0 hl0
      gi_wp2
      go_end0
      exact ⟨⟨_, rfl⟩, .inl ⟨_, ⟨ps, hC.once, fun x => by rw [hC.keys x, hl0]; simp, hC.vals, rfl⟩, hJs⟩⟩
    · intro x c kl yd yp w2 cnt2 hkey hlk hv hat hrg2 hlt hg2 hs2 hen
      obtain ⟨x', ex, rfl, _⟩ := Maps.keyOf_int_inv Try.underlying2 hkey
      obtain rfl : x = x' := by simpa using ex
      obtain ⟨nd, hnd, rfl⟩ : ∃ nd, kvAt m x = some nd ∧ c = nd.agg := by
        have hc : yd = .held c := by simp only [rdN, Option.some.injEq, Prod.mk.injEq] at hv; exact hv.1.symm
        cases hk : kvAt m x with
        | none =>
          have e1 := hat .nil
          rw [kvD_none hk, hc] at e1
          cases e1
        | some nd =>
          refine ⟨nd, rfl, ?_⟩
          have e1 := hat .nil
          rw [kvD_some hk, hc] at e1
          simpa using e1.symm
      have hJ2 : J (ps.map Prod.snd) w2 := hJ _ wr w2 (some W.heap.size) hJs hg2 (fun r e => by cases e; exact ⟨Nat.le_refl _, hrg.iter_walk⟩)
      have hJ3 := hJ _ w2 (w2.alloc (.cells #[.int .i64 nd.id, .int .i64 nd.parent, .string nd.name, .slice nd.pao nd.props.length nd.pcap] 79)) none hJ2 (World.grownBy_alloc _ _ _) (fun r e => by cases e)
      obtain ⟨fn, tmps, assign, body, hy, hR⟩ := hY (ps.map Prod.snd) nd _ hJ3 (by simp; omega)
      have hC2 := hC.step hlk hnd
      have HC2 := hide hC2
      have HND := hide hnd
      unfold NodG.agg at hy hen ⊢
      clear hs2 hat hv hC2 hnd hC hkey
      gi_wp2
      refine hR.mono ?_
      rintro e W3 (⟨rfl, hJ4, hk3⟩ | ⟨rfl, hJx3⟩)
      · gi_wp2
        have hrg3 := (hrg2.alloc _).of_walks hk3
        go_roundw
        case rel => exact ⟨_, cnt2, ps ++ [(x, nd)], hrg3, by simp; omega, HC2.out, by simpa using hJ4⟩
        case measure => rw [hrg3.left_eq, hrg.left_eq]; exact hlt
      · gi_wp2
        refine bodyPost_ret (results_none rfl _ _ _) rfl ?_
        exact ⟨⟨_, rfl⟩, .inr ⟨_, trivial, hJx3⟩⟩

theorem values_stops (n : Nat) (hn : 1 ≤ n) (Bm b : Nat) (m : List (Int × NodG)) (w : World) (hBm : Bm < w.heap.size) (hm : w.cell? ⟨Bm, 0, none⟩ = some (.map (some b))) (hown : MapAt w b m) :
    SeqStopsK Fence.wide n Try.prog 123 #[.pointer (some ⟨Bm, 0, none⟩)] (fun x : NodG => #[x.agg]) KeepsWalks (AllK m) (fun _ => True) m.length w := fun l J Jx W hW hJ _ hY h0 =>
  values1_in n hn l Bm b m J Jx hY W hJ ((hW.cell (p := ⟨Bm, 0, none⟩) hBm).trans hm) (hown.stays hW) h0
theorem new4 (W : World) (x : NodG) : ∀ j u, x.cells[j]? = some u → (W.alloc (.cells #[.int .i64 x.id, .int .i64 x.parent, .string x.name, .slice x.pao x.props.length x.pcap] 79)).cell? ((⟨W.heap.size, 0, none⟩ : Addr).add j) = some u := by
  intro j u hu
  rw [Addr.add_lit]
  obtain ⟨h0, h1, h2, h3, _⟩ := cells4 (heap_alloc_new W (.cells #[.int .i64 x.id, .int .i64 x.parent, .string x.name, .slice x.pao x.props.length x.pcap] 79))
  match j, hu with
  | 0, hu => exact h0.trans hu
  | 1, hu => exact h1.trans hu
  | 2, hu => exact h2.trans hu
  | 3, hu => exact h3.trans hu
  | j + 4, hu => simp [NodG.cells] at hu
theorem one4 (x : NodG) : ∀ u ∈ x.cells, u.oneCell' = true := by
  intro u hu
  simp only [NodG.cells, List.mem_cons, List.not_mem_nil, or_false] at hu
  rcases hu with rfl | rfl | rfl | rfl <;> rfl
set_option maxRecDepth 100000 in
set_option maxHeartbeats 2000000 in
theorem appendSeq_in (n : Nat) (hn : 3 ≤ n) (Bm b : Nat) (m : List (Int × NodG)) (w : World) (hl : m.length ≤ 1048576) (hBm : Bm < w.heap.size) (hm : w.cell? ⟨Bm, 0, none⟩ = some (.map (some b))) (hown : MapAt w b m) :
    CallsIn Fence.wide n Try.prog 122 #[.slice none 0 0, .func (.func 123) #[] #[.pointer (some ⟨Bm, 0, none⟩)]] w fun e W' => ∃ v xs, e = .returned v ∧ AllK m xs ∧ W'.ownsRow w.heap.size 79 4 v xs.length (flatG NodG.cells xs) ∧ Below w.heap.size w W' := by
  have h1 : 1 ≤ n := by omega
  obtain ⟨i0, hi, hz0, hz1, hz2⟩ := info_parts infoNode
  refine callsIn_of_wp_marks Try.func122 rfl trivial ?_ rfl
  simp only [Try.ntmps122, List.size_toArray, List.length_cons, List.length_nil, Nat.reduceAdd, Nat.reduceSub, Array.replicate_succ, Array.replicate_zero, List.push_toArray, List.append_toArray, List.nil_append, List.cons_append]
  gi_wp2
  have bO := Boxed.new w 41 (.slice none 0 0)
  have hB0 : Below w.heap.size w (w.alloc (.cells #[.slice none 0 0] 41)) := (Below.refl _ w).alloc (Nat.le_refl _) _
  refine wpIn_rangeFunc_ownH rfl h1 (gf := 123) (lb := #[.pointer (some ⟨Bm, 0, none⟩)]) rfl trivial (enters_of Try.func123 (by kernel_rfl) rfl)
    (values_stops (n - 1) (by omega) Bm b m w hBm hm hown) walksK_t walksK_b hB0 (fun _ => rfl)
    (fun pre W => (∃ v, Boxed W w.heap.size 41 v ∧ W.ownsRow w.heap.size 79 4 v pre.length (flatG NodG.cells pre) ∧ True) ∧ Below w.heap.size w W)
    (fun _ _ _ => False)
    (OwnFrom.and (Own.from (holdsRow_own w.heap.size w.heap.size 41 79 4 (fun pre : List NodG => pre.length) (fun pre => flatG NodG.cells pre) (fun pre v => True)) _) (ownFrom_below (Nat.le_refl _) (by simp)))
    (fun _ _ _ _ _ hs _ _ => hs)
    ⟨⟨_, bO, World.ownsRow_nil _ _ _ _, trivial⟩, hB0⟩
    (fun x a' W => ∃ Bx, w.heap.size < Bx ∧ W.heap[Bx]? = some (.cells #[.int .i64 x.id, .int .i64 x.parent, .string x.name, .slice x.pao x.props.length x.pcap] 79 (0, 0)) ∧ a' = { tmps := #[.slice none 0 0, .func (.func 123) #[] #[.pointer (some ⟨Bm, 0, none⟩)], .pointer (some ⟨w.heap.size, 0, none⟩), undef, .slice none 0 0, .pointer (some ⟨Bx, 0, none⟩), .func (.func 123) #[] #[.pointer (some ⟨Bm, 0, none⟩)], .agg #[.int .i64 x.id, .int .i64 x.parent, .string x.name, .slice x.pao x.props.length x.pcap], undef, undef, undef, undef, undef], defers := [] })
    (fun x a' _ X Y row hs hg hr => by
      obtain ⟨Bx, e1, e2, e3⟩ := hs
      refine ⟨Bx, e1, (hg.block Bx (Array.getElem?_eq_some_iff.1 e2).1 (fun e => ?_)).trans e2, e3⟩
      obtain ⟨_, o, ho, hc⟩ := hr Bx e.symm
      rw [e2] at ho
      cases ho
      cases hc)
    ?assign ?body ?done ?stop
  case assign =>
    rintro l pre x W K ⟨⟨v, hv, hrow, _⟩, hB1⟩ hK
    unfold NodG.agg
    gi_wp2
    exact hK _ _ ((KeepsOthers.alloc _ _).from _) (KeepsWalks.alloc _ _) ⟨⟨v, hv.alloc _, hrow.alloc _, trivial⟩, hB1.alloc hB1.size _⟩ ⟨W.heap.size, hv.lt, heap_alloc_new W _, rfl⟩
  case body =>
    rintro l pre x a' W hl' ⟨r, hr⟩ ⟨⟨v, hv, hrow, _⟩, hB⟩ ⟨Bx, hBx, bX, rfl⟩ hlt
    have hc := hv.cell
    obtain ⟨x0, x1, x2, x3, _, _, _, _⟩ := cells4 bX
    gi_wp2_with (gi_at_builtin; refine wpListIn_append_own _ rfl _ _ 41 rfl w.heap.size 79 i0 _ 4 56 Try.underlying41 hi hz0 hz1 hz2 rfl (by decide) _ _ _ rfl (hrow.alloc _) ⟨W.heap.size, 0, none⟩ 1 1 x.cells rfl rfl (new4 W x) (one4 x) (by unfold maxLen; omega) (by omega) (by have := hB.size; simp; omega) ?_; intro v' w1 hown' hgrow _; obtain ⟨g', cap', rfl⟩ := ownsRow_succ hown'; obtain ⟨hv1, hv2, hr2, hk2, hb2⟩ := hv.appended (by decide) hrow hB.size (Nat.le_refl _) hown' hgrow; have hc1 := hv1.cell; have hf1 := hv1.frozen)
    exact ⟨hk2.from _, ⟨hk2.size, fun k o h hw => hk2.same k o h (Obj.not_cells_of_walk hw)⟩, ⟨_, hv2, by rw [flatG_app, List.length_append]; simpa [flatG] using hr2, trivial⟩, hB.trans hb2⟩
  case done =>
    rintro D ys W hD hS ⟨⟨v, hv, hrow, _⟩, hB⟩ hK
    have hc := hv.cell
    gi_wp2
    refine ⟨by simp, .inl ⟨_, _, rfl, run_takeDeferred hK, ?_⟩⟩
    exact ⟨_, results_tmp rfl _ _ _, v, ys, rfl, hS, ownsRow_putObj hrow _ hK rfl, hB.trans (belowK_b (w := w) (Nat.le_refl _) W D _ _ (by simp at hD; omega) hK rfl rfl)⟩
  case stop =>
    rintro D c pre W _ _ h _
    exact h.elim

set_option maxHeartbeats 1000000 in
theorem collect_in (n : Nat) (hn : 4 ≤ n) (Bm b : Nat) (m : List (Int × NodG)) (w : World) (hl : m.length ≤ 1048576) (hBm : Bm < w.heap.size) (hm : w.cell? ⟨Bm, 0, none⟩ = some (.map (some b))) (hown : MapAt w b m) :
    CallsIn Fence.wide n Try.prog 102 #[.func (.func 123) #[] #[.pointer (some ⟨Bm, 0, none⟩)]] w fun e W' => ∃ v xs, e = .returned v ∧ AllK m xs ∧ W'.ownsRow w.heap.size 79 4 v xs.length (flatG NodG.cells xs) ∧ Below w.heap.size w W' := by
  have h1 : 1 ≤ n := by omega
  refine callsIn_of_wp Try.func102 rfl trivial ?_ rfl
  simp only [Try.ntmps102, List.size_toArray, List.length_cons, List.length_nil, Nat.reduceAdd, Nat.reduceSub, Array.replicate_succ, Array.replicate_zero, List.push_toArray, List.append_toArray, List.nil_append, List.cons_append]
  gi_wp2_with (refine ⟨trivial, ?_⟩; gi_at_call 122; refine (appendSeq_in (n - 1) (by omega) Bm b m _ hl hBm hm hown).mono ?_; rintro e w' ⟨v, ss, rfl, hS, hrow, hb⟩)
  go_ret
  exact ⟨v, ss, rfl, hS, hrow, hb⟩
theorem collect_any (Bm b : Nat) (m : List (Int × NodG)) (w : World) (hl : m.length ≤ 1048576) (hBm : Bm < w.heap.size) (hm : w.cell? ⟨Bm, 0, none⟩ = some (.map (some b))) (hown : MapAt w b m) :
    Calls Try.prog 102 #[.func (.func 123) #[] #[.pointer (some ⟨Bm, 0, none⟩)]] w fun e W' => ∃ v xs, e = .returned v ∧ AllK m xs ∧ W'.ownsRow w.heap.size 79 4 v xs.length (flatG NodG.cells xs) ∧ Below w.heap.size w W' :=
  callsIn_wide.1 (collect_in 4 (Nat.le_refl _) Bm b m w hl hBm hm hown)
set_option maxRecDepth 100000 in
set_option maxHeartbeats 400000 in
theorem values_any (B : Nat) (w : World) :
    Calls Try.prog 103 #[.map (some B)] w fun e w' => e = .returned (.func (.func 123) #[] #[.pointer (some ⟨w.heap.size, 0, none⟩)]) ∧ w'.heap[w.heap.size]? = some (.cells #[.map (some B)] 87 (0, 0)) ∧ Below w.heap.size w w' := by
  go_enter Try.func103, Try.ntmps103
  go_wp2
  go_ret
  exact ⟨rfl, heap_alloc_new w _, (Below.refl _ _).alloc (Nat.le_refl _) _⟩
/-- What all of a map with different numbers come to. -/
theorem AllK.perm {m : List (Int × NodG)} {xs : List NodG} (h : AllK m xs) (hn : (m.map Prod.fst).Nodup) : xs.Perm (m.map Prod.snd) := by
  obtain ⟨ps, h1, h2, h3, rfl⟩ := h
  refine List.Perm.map _ ?_
  have nd : ∀ {l : List (Int × NodG)}, (l.map Prod.fst).Nodup → l.Nodup := fun h => List.Pairwise.of_map Prod.fst (fun a b hab e => hab (by rw [e])) h
  have atm : ∀ p, p ∈ m ↔ kvAt m p.1 = some p.2 := fun p => by
    constructor
    · intro hp
      cases hf : m.find? (fun q => decide (q.1 = p.1)) with
      | none =>
        have := List.find?_eq_none.1 hf p hp
        simp at this
      | some q =>
        have hq := List.mem_of_find?_eq_some hf
        have e : q.1 = p.1 := by simpa using List.find?_some hf
        have : q = p := by
          have hin := List.pairwise_map.1 hn
          rcases List.getElem_of_mem hq with ⟨i, hi, rfl⟩
          rcases List.getElem_of_mem hp with ⟨j, hj, rfl⟩
          have hpw := List.pairwise_iff_getElem.1 hin
          rcases Nat.lt_trichotomy i j with h | h | h
          · exact absurd e (hpw i j hi hj h)
          · subst h; rfl
          · exact absurd e.symm (hpw j i hj hi h)
        subst this
        unfold kvAt
        rw [hf]
        rfl
    · intro h
      unfold kvAt at h
      obtain ⟨q, hq, e⟩ := Option.map_eq_some_iff.1 h
      have h1 := List.mem_of_find?_eq_some hq
      have h2 : q.1 = p.1 := by simpa using List.find?_some hq
      have : q = p := Prod.ext h2 e
      rw [← this]
      exact h1
  rw [List.perm_ext_iff_of_nodup (nd h1) (nd hn)]
  intro p
  rw [atm p]
  constructor
  · exact h3 p
  · intro hp
    have : p.1 ∈ ps.map Prod.fst := (h2 p.1).2 (by rw [hp]; rfl)
    obtain ⟨q, hq, e⟩ := List.mem_map.1 this
    have hv := h3 q hq
    rw [e, hp] at hv
    have : q = p := Prod.ext e (by simpa using hv.symm)
    rwa [← this]
end Go.Proofs.Ytcpgkalafkhlgae.OpR
namespace Go.Proofs.Ytcpgkalafkhlgae.OpR
open Go.ChangeShapes Go.WideShapes Go.ChangeAt Go.RowKit
set_option linter.unusedVariables false

theorem flat_one : ∀ (l : List OpV), ∀ u ∈ flat l, u.oneCell' = true := by
  intro l u hu
  obtain ⟨o, _, ho⟩ := List.mem_flatMap.1 hu
  simp only [OpV.cells, List.mem_cons, List.not_mem_nil, or_false] at ho
  rcases ho with rfl | rfl | rfl | rfl | rfl | rfl | rfl <;> rfl
/-- The cells of ops that lie in memory, as one row. -/
theorem OpsAt.cells {w : World} {b off : Nat} {l : List OpV} (h : OpsAt w (some ⟨b, off, none⟩) l) : ∀ j u, (flat l)[j]? = some u → w.cell? ((⟨b, off, none⟩ : Addr).add j) = some u := by
  intro j u hu
  have hj : j < l.length * 7 := by rw [← flat_len]; exact (List.getElem?_eq_some_iff.1 hu).1
  obtain ⟨k, f, rfl, hf⟩ : ∃ k f, j = k * 7 + f ∧ f < 7 := ⟨j / 7, j % 7, by omega, by omega⟩
  have hk : k < l.length := by omega
  rw [flat_get l k f hk hf] at hu
  obtain ⟨b', off', e, _, c0, c1, c2, c3, c4, c5, c6⟩ := h k hk
  cases e
  rw [Addr.add_lit]
  match f, hf with
  | 0, _ => exact c0.trans hu
  | 1, _ => exact c1.trans hu
  | 2, _ => exact c2.trans hu
  | 3, _ => exact c3.trans hu
  | 4, _ => exact c4.trans hu
  | 5, _ => exact c5.trans hu
  | 6, _ => exact c6.trans hu
/-- A row of ops that the call owns, at a place. -/
def OwnAt (w : World) (base : Nat) (T : TypeId) (v : Value) (l : List OpV) : Prop := w.ownsRow base T 7 v l.length (flat l) ∧ v ≠ .slice none 0 0
theorem OwnAt.at {w : World} {base : Nat} {T : TypeId} {v : Value} {l : List OpV} (h : OwnAt w base T v l) : ∃ g cap, v = .slice (some ⟨g, 0, none⟩) l.length cap ∧ base ≤ g ∧ g < w.heap.size ∧ l.length ≤ cap ∧ cap ≤ maxLen ∧ OpsAt w (some ⟨g, 0, none⟩) l := by
  have h0 := h.1
  rcases h.1.2 with ⟨e, _⟩ | ⟨g, cap, cur, rfl, hb, hg, hl, hm, hs, ht⟩
  · exact absurd e h.2
  · have hlt := (Array.getElem?_eq_some_iff.1 hg).1
    refine ⟨g, cap, rfl, hb, hlt, hl, hm, fun j hj => ⟨g, 0, rfl, hlt, ?_⟩⟩
    have hc := fun f (hf : f < 7) (u : Value) (hu : l[j].cells[f]? = some u) => h0.cells rfl (j * 7 + f) u ((flat_get l j f hj hf).trans hu)
    simp only [Addr.add_lit] at hc
    exact ⟨hc 0 (by omega) _ rfl, hc 1 (by omega) _ rfl, hc 2 (by omega) _ rfl, hc 3 (by omega) _ rfl, hc 4 (by omega) _ rfl, hc 5 (by omega) _ rfl, hc 6 (by omega) _ rfl⟩
theorem OwnAt.below {w w' : World} {base : Nat} {T : TypeId} {v : Value} {l : List OpV} (h : OwnAt w base T v l) (hb : Below w.heap.size w w') : OwnAt w' base T v l :=
  ⟨h.1.kept (row := none) ⟨hb.os, hb.tape, hb.output, hb.size, fun k hk _ => hb.block k hk⟩ (by cases hv : v.ownBlock <;> simp), h.2⟩

theorem OpsAt.at0 {w : World} {g : Nat} {l : List OpV} (h : OpsAt w (some ⟨g, 0, none⟩) l) {k : Nat} (hk : k < l.length) : OpAt w g (k * 7) l[k] := by
  obtain ⟨b, off, e, _, ho⟩ := h k hk
  cases e
  rwa [Nat.zero_add] at ho
theorem OpsAt.atk {w : World} {b off : Nat} {l : List OpV} (h : OpsAt w (some ⟨b, off, none⟩) l) {k : Nat} (hk : k < l.length) : OpAt w b (off + k * 7) l[k] := by
  obtain ⟨b', off', e, _, ho⟩ := h k hk
  cases e
  exact ho

def lowOff (cap k : Nat) : Nat := if cap = k then 0 else k * 7
theorem slice_low (W : World) (g len cap k : Nat) (h : k ≤ len) (hc : len ≤ cap) :
    (Instr.slice 22 (.slice (some ⟨g, 0, none⟩) len cap) (some (.int .i64 (k : Int))) none none).run Try.prog W = .ok (.slice (some ⟨g, lowOff cap k, none⟩) (len - k) (cap - k)) W := by
  have ht : Try.prog.underlying 22 = some (.slice (Try.prog.elem 22)) := by kernel_rfl
  have hs : ∀ w, (sizeOf (Try.prog.elem 22)).run Try.prog w = .ok 7 w := fun _ => by kernel_rfl
  rw [run_slice_l W 22 (some ⟨g, 0, none⟩) len cap ht .i64 (k : Int) (by omega) (by omega), hs]
  simp only [Result.andThen, sliced, Int.toNat_natCast]
  unfold lowOff
  by_cases e : cap = k
  · simp [e]
  · simp [e, Addr.add]
    intro h0; omega
theorem slice_high (W : World) (g len cap k : Nat) (h : k ≤ len) (hc : len ≤ cap) :
    (Instr.slice 22 (.slice (some ⟨g, 0, none⟩) len cap) none (some (.int .i64 (k : Int))) none).run Try.prog W = .ok (.slice (some ⟨g, 0, none⟩) k cap) W := by
  have ht : Try.prog.underlying 22 = some (.slice (Try.prog.elem 22)) := by kernel_rfl
  have hs : ∀ w, (sizeOf (Try.prog.elem 22)).run Try.prog w = .ok 7 w := fun _ => by kernel_rfl
  rw [run_slice_h W 22 (some ⟨g, 0, none⟩) len cap ht .i64 (k : Int) (by omega) (by omega), hs]
  simp [Result.andThen, sliced, Addr.add]
theorem OpsAt.take {w : World} {b off : Nat} {l : List OpV} (h : OpsAt w (some ⟨b, off, none⟩) l) (k : Nat) : OpsAt w (some ⟨b, off, none⟩) (l.take k) := fun j hj => by
  have hj' : j < l.length := by rw [List.length_take] at hj; omega
  obtain ⟨b', off', e, hlt, ho⟩ := h j hj'
  exact ⟨b', off', e, hlt, by rw [List.getElem_take]; exact ho⟩
theorem OpsAt.low {w : World} {g : Nat} {l : List OpV} (h : OpsAt w (some ⟨g, 0, none⟩) l) {cap k : Nat} (hc : l.length ≤ cap) : OpsAt w (some ⟨g, lowOff cap k, none⟩) (l.drop k) := fun j hj => by
  have hj' : k + j < l.length := by rw [List.length_drop] at hj; omega
  have ho := h.at0 hj'
  obtain ⟨_, _, e, hlt, _⟩ := h (k + j) hj'
  cases e
  refine ⟨g, lowOff cap k, rfl, hlt, ?_⟩
  rw [List.getElem_drop]
  unfold lowOff
  rw [if_neg (by omega), ← Nat.add_mul]
  exact ho
theorem owns_base {w : World} {base base' : Nat} {T : TypeId} {v : Value} {n : Nat} {xs : List Value} (h : w.ownsRow base T 7 v n xs) (hb : base' ≤ base) : w.ownsRow base' T 7 v n xs := by
  refine ⟨h.1, ?_⟩
  rcases h.2 with hn | ⟨g, cap, cur, e, hg, rest⟩
  · exact .inl hn
  · exact .inr ⟨g, cap, cur, e, Nat.le_trans hb hg, rest⟩
theorem empty_row (X : World) : (X.alloc (.cells #[] 51)).ownsRow X.heap.size 51 7 (.slice (some ⟨X.heap.size, 0, none⟩) 0 0) 0 [] :=
  World.ownsRow_made X #[] 0 (Nat.le_refl _) (by decide) rfl
theorem _root_.Go.World.ownsRow.drewn {w : World} {base : Nat} {T : TypeId} {size : Nat} {v : Value} {n : Nat} {xs : List Value} (h : w.ownsRow base T size v n xs) : w.drew.ownsRow base T size v n xs := h
theorem take_len {l : List OpV} {k : Nat} (h : k ≤ l.length) : (flat (l.take k)).length = k * 7 := by rw [flat_len, List.length_take, Nat.min_eq_left h]
theorem drop_len (l : List OpV) (k : Nat) : (flat (l.drop k)).length = (l.length - k) * 7 := by rw [flat_len, List.length_drop]
theorem flat_ins (l : List OpV) (k : Nat) (o : OpV) : flat (l.take k) ++ o.cells ++ flat (l.drop k) = flat (l.take k ++ o :: l.drop k) := by
  rw [flat_app, flat_cons, List.append_assoc]
theorem op_one (o : OpV) : ∀ u ∈ o.cells, u.oneCell' = true := fun u hu => flat_one [o] u (by simpa [flat] using hu)
theorem cells3 {w : World} {g : Nat} {v0 v1 v2 : Value} {T : TypeId} (h : w.heap[g]? = some (.cells #[v0, v1, v2] T (0, 0))) :
    w.cell? ⟨g, 0, none⟩ = some v0 ∧ w.cell? ⟨g, 1, none⟩ = some v1 ∧ w.cell? ⟨g, 2, none⟩ = some v2 ∧ w.frozen? ⟨g, 0, none⟩ = false ∧ w.frozen? ⟨g, 1, none⟩ = false ∧ w.frozen? ⟨g, 2, none⟩ = false ∧ g < w.heap.size := by
  refine ⟨by simp [World.cell?, h], by simp [World.cell?, h], by simp [World.cell?, h], by simp [World.frozen?, h], by simp [World.frozen?, h], by simp [World.frozen?, h], ?_⟩
  exact (Array.getElem?_eq_some_iff.1 h).1

theorem OpsAt.nil_of {w : World} {l : List OpV} (h : OpsAt w none l) : l = [] := by
  cases l with
  | nil => rfl
  | cons o r => obtain ⟨b, off, e, _⟩ := h 0 (by simp); cases e
theorem OpsAt.news {w : World} {ad : Addr} {l : List OpV} (h : OpsAt w (some ad) l) : ∀ j u, (flat l)[j]? = some u → w.cell? (ad.add j) = some u := by
  cases l with
  | nil => intro j u hu; simp [flat] at hu
  | cons o r =>
    obtain ⟨b, off, e, _⟩ := h 0 (by simp)
    cases e
    exact h.cells
/-- Ops appended to a row of ops that the call owns: whatever slice they lie in, nil too. -/
theorem wpList_append_ops {ops : Array Oper} {rest : List Oper} {o : Oper} {a : Act} {w : World} {Q : Exit → Act → World → Prop} (hgd : o.guard = none) (s x : Operand)
    (ho : o.op = .call { callee := .builtin .append, args := #[s, x], argTypes := #[22, 22] })
    (base : Nat) (v : Value) (out : List OpV) (hs : a.eval s = v) (hown : w.ownsRow base 51 7 v out.length (flat out))
    (ao : Option Addr) (m : List OpV) (c : Nat) (hx : a.eval x = .slice ao m.length c) (hA : OpsAt w ao m)
    (hlen : out.length + m.length ≤ 4000000) (hbase : base ≤ w.heap.size)
    (h : ∀ v' w', w'.ownsRow base 51 7 v' (out ++ m).length (flat (out ++ m)) → w.grownBy w' v.ownBlock → (v' = .slice none 0 0 ↔ v = .slice none 0 0 ∧ m.length = 0) → wpList Try.prog ops Q rest (a.put o.dst v') w') : wpList Try.prog ops Q (o :: rest) a w := by
  obtain ⟨i0, hi, hzz⟩ := Option.map_eq_some_iff.1 infoOp
  simp only [Prod.mk.injEq] at hzz
  obtain ⟨hz0, hz1, hz2⟩ := hzz
  have hm : maxLen = 9223372036854775807 := rfl
  cases ao with
  | some ad =>
    refine wpList_append_own _ hgd s x 22 ho base 51 i0 _ 7 72 Try.underlying22 hi hz0 hz1 hz2 rfl (by decide) v out.length (flat out) hs hown ad m.length c (flat m) hx (flat_len m) hA.news (flat_one m) (by omega) (by omega) hbase (fun v' w' h1 h2 h3 => h v' w' ?_ h2 h3)
    rw [List.length_append, flat_app]; exact h1
  | none =>
    obtain rfl := hA.nil_of
    have hrun : (Builtin.append_ #[22, 22] o.type #[v, .slice none 0 c]).run Try.prog w = .ok v w := by
      rcases hown.2 with ⟨rfl, _⟩ | ⟨g, cap, cur, rfl, _, _, hnc, _⟩
      · simp [Builtin.append_, run_underlying Try.underlying22, sizeOf, typeInfo, hi, Builtin.lenOf, Builtin.firstCells]
      · simp [Builtin.append_, run_underlying Try.underlying22, sizeOf, typeInfo, hi, Builtin.lenOf, Builtin.firstCells, loadCells, storeCells, hnc]
    refine wpList_plain hgd fun K hK => ?_
    have hx' : a.eval x = .slice none 0 c := hx
    unfold Oper.wp execOp
    simp only [ho, resolve, invoke, builtin, Sem.run_bind, Sem.run_pure, Result.andThen_ok, List.map_toArray, List.map_cons, List.map_nil, hs, hx', hrun]
    refine hK _ _ (h v w ?_ ⟨rfl, rfl, rfl, Nat.le_refl _, fun _ _ _ => rfl⟩ (by simp))
    rw [List.append_nil]; exact hown
/-- Where a slice from k on begins. -/
def fromOff (o cap k : Nat) : Nat := if cap = k then o else o + k * 7
theorem slice_from (W : World) (g o len cap k : Nat) (K : Int) (hK : K = (k : Int)) (h : k ≤ len) :
    (Instr.slice 22 (.slice (some ⟨g, o, none⟩) len cap) (some (.int .i64 K)) none none).run Try.prog W = .ok (.slice (some ⟨g, fromOff o cap k, none⟩) (len - k) (cap - k)) W := by
  subst hK
  have ht : Try.prog.underlying 22 = some (.slice (Try.prog.elem 22)) := by kernel_rfl
  have hs : ∀ w, (sizeOf (Try.prog.elem 22)).run Try.prog w = .ok 7 w := fun _ => by kernel_rfl
  rw [run_slice_l W 22 (some ⟨g, o, none⟩) len cap ht .i64 (k : Int) (by omega) (by omega), hs]
  simp only [Result.andThen, sliced, Int.toNat_natCast, Option.map_some, add_plain]
  unfold fromOff
  by_cases e : cap = k
  · simp [e]
  · simp [e]
theorem slice_cut (W : World) (g o len cap k : Nat) (K : Int) (hK : K = (k : Int)) (h : k ≤ cap) :
    (Instr.slice 22 (.slice (some ⟨g, o, none⟩) len cap) none (some (.int .i64 K)) (some (.int .i64 K))).run Try.prog W = .ok (.slice (some ⟨g, o, none⟩) k k) W := by
  subst hK
  have ht : Try.prog.underlying 22 = some (.slice (Try.prog.elem 22)) := by kernel_rfl
  have hs : ∀ w, (sizeOf (Try.prog.elem 22)).run Try.prog w = .ok 7 w := fun _ => by kernel_rfl
  rw [run_slice_hm W 22 (some ⟨g, o, none⟩) len cap ht .i64 .i64 (k : Int) (k : Int) (by omega) (by omega) (by omega), hs]
  simp [Result.andThen, sliced, Addr.add]
theorem OpsAt.from {w : World} {g o : Nat} {l : List OpV} (h : OpsAt w (some ⟨g, o, none⟩) l) {cap : Nat} (k : Nat) (hc : l.length ≤ cap) : OpsAt w (some ⟨g, fromOff o cap k, none⟩) (l.drop k) := fun j hj => by
  have hj' : k + j < l.length := by rw [List.length_drop] at hj; omega
  have ho := h.atk hj'
  obtain ⟨_, _, e, hlt, _⟩ := h (k + j) hj'
  cases e
  refine ⟨g, fromOff o cap k, rfl, hlt, ?_⟩
  rw [List.getElem_drop]
  unfold fromOff
  rw [if_neg (by omega), Nat.add_assoc, ← Nat.add_mul]
  exact ho
end Go.Proofs.Ytcpgkalafkhlgae.OpR
