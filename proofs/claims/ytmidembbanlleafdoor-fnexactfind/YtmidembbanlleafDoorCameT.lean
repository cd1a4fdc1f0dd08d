/- What is known of trees that come in as arguments. -/
import Derived.Test.YtmidembbanlleafDoorCameOp
import Derived.Test.YtmidembbanlleafDoorTrH
import Derived.Test.YtmidembbanlleafDoorIMap
namespace Go.Proofs.YtmidembbanlleafDoor.OpR
open Go.ChangeShapes Go.WideShapes Go.ChangeAt Go.RowKit
set_option linter.unusedVariables false

theorem cellsP : Tryd.prog.cellsOf 82 = 2 := by kernel_rfl
theorem cellsN : Tryd.prog.cellsOf 50 = 4 := by kernel_rfl
theorem cellsT : Tryd.prog.cellsOf 24 = 1 := by kernel_rfl
theorem cellsPS : Tryd.prog.cellsOf 48 = 1 := by kernel_rfl
theorem cellsNS : Tryd.prog.cellsOf 22 = 1 := by kernel_rfl
theorem lit64 {x : Int} (h : (Lit.int .i64 x).wf = true) : In64 x := by
  simp [Lit.wf, IntKind.min, IntKind.max, IntKind.signed, IntKind.bits] at h
  unfold In64
  omega

section
variable {H : Type} {enc : TypeId × Value → H} {w : World} {base : Nat} {spare : Nat → Bool} {held : Bool}
set_option maxRecDepth 100000 in
theorem prop_of_trod {fuel : Nat} {cs : List Value} {x : DataW H × List MemPlace} (h : DataW.trod enc Tryd.prog w base spare held fuel 82 cs = some x) :
    ∃ o : PropV, cs = o.cells ∧ o.key.size ≤ maxLen ∧ o.value.size ≤ maxLen := by
  obtain ⟨xs, n, _, _, hl, hlen, hf⟩ := DataW.trod_struct Tryd.underlying82 h
  rw [cellsP] at hl
  match cs, hl with
  | [c0, c1], _ =>
  match xs, hlen with
  | [x0, x1], _ =>
  have h0 : DataW.trod enc Tryd.prog w base spare held n 9 [c0] = some x0 := by
    have h : DataW.trod enc Tryd.prog w base spare held n 9 (([c0, c1].drop 0).take (Tryd.prog.cellsOf 9)) = some x0 := hf 0 _ rfl
    rw [cellsS] at h
    exact h
  have h1 : DataW.trod enc Tryd.prog w base spare held n 9 [c1] = some x1 := by
    have h : DataW.trod enc Tryd.prog w base spare held n 9 (([c0, c1].drop 1).take (Tryd.prog.cellsOf 9)) = some x1 := hf 1 _ rfl
    rw [cellsS] at h
    exact h
  obtain ⟨s5, e5, _, z5⟩ := DataW.trod_string Tryd.underlying9 h0
  obtain ⟨s6, e6, _, z6⟩ := DataW.trod_string Tryd.underlying9 h1
  cases e5; cases e6
  exact ⟨⟨s5, s6⟩, rfl, z5, z6⟩
end
/-- Props that a slice leads to. -/
def CameP (w : World) (ao : Option Addr) (l : List PropV) : Prop := l.length ≤ maxLen ∧ PropsAt w ao l ∧ SizedP maxLen l
theorem cell_lt {w : World} {b p : Nat} {v : Value} (h : w.cell? ⟨b, p, none⟩ = some v) : b < w.heap.size := by
  rcases Nat.lt_or_ge b w.heap.size with h' | h'
  · exact h'
  · simp [World.cell?, Array.getElem?_eq_none h'] at h
set_option maxRecDepth 100000 in
theorem props_of_trod {H : Type} {enc : TypeId × Value → H} {W : World} {fuel : Nat} {c : Value} {x : DataW H × List MemPlace} (hf : DataW.trod enc Tryd.prog W 0 (fun _ => true) true fuel 48 [c] = some x) :
    ∃ ao cap l, c = .slice ao l.length cap ∧ CameP W ao l := by
  rcases Deep.open_slice Tryd.underlying48 hf with ⟨hcs, hx⟩ | ⟨a, len', cap', m, n, D, Pl, hcs, _, hl, hm, hmm, hx, hel⟩
  · cases hcs
    exact ⟨none, 0, [], rfl, by unfold maxLen; simp, fun j hj => absurd hj (by simp), fun o ho => absurd ho (by simp)⟩
  · cases hcs
    simp only [if_true] at hmm
    subst hmm
    have each : ∀ i, i < len' → ∃ o : PropV, (∀ f, f < 2 → W.cell? ((a.add (i * 2)).add f) = o.cells[f]?) ∧ o.key.size ≤ maxLen ∧ o.value.size ≤ maxLen := fun i hi => by
      obtain ⟨cs', h1, h2⟩ := hel i (by omega)
      obtain ⟨o, rfl, z1, z2⟩ := prop_of_trod h2
      rw [cellsP] at h1
      obtain ⟨_, _, hc⟩ := World.cells?_some h1
      exact ⟨o, hc, z1, z2⟩
    haveI : Inhabited PropV := ⟨⟨⟨#[]⟩, ⟨#[]⟩⟩⟩
    obtain ⟨f, hfn⟩ := Deep.choose_lt each
    refine ⟨some a, _, (List.range len').map f, by simp; rfl, by simp; omega, fun j hj => ?_, fun o ho => ?_⟩
    · have hj' : j < len' := by simpa using hj
      obtain ⟨hc, _, _⟩ := hfn j hj'
      obtain ⟨b, off, spot⟩ := a
      have h0 := (hfn 0 (by omega)).1 0 (by omega)
      have hspot : spot = none := by simpa [Addr.add] using World.cell?_spot h0
      subst hspot
      have hc' : ∀ q, q < 2 → W.cell? ⟨b, off + j * 2 + q, none⟩ = (f j).cells[q]? := fun q hq => by
        have := hc q hq
        rwa [add_plain, add_plain] at this
      have e : ((List.range len').map f)[j] = f j := by simp
      rw [e]
      exact ⟨b, off, rfl, cell_lt (hc' 0 (by omega)), hc' 0 (by omega), hc' 1 (by omega)⟩
    · obtain ⟨i, hi, rfl⟩ := List.mem_map.1 ho
      exact ⟨(hfn i (List.mem_range.1 hi)).2.1, (hfn i (List.mem_range.1 hi)).2.2⟩
set_option maxRecDepth 100000 in
theorem nod_of_trod {H : Type} {enc : TypeId × Value → H} {W : World} {fuel : Nat} {cs : List Value} {x : DataW H × List MemPlace} (h : DataW.trod enc Tryd.prog W 0 (fun _ => true) true fuel 50 cs = some x) :
    ∃ o : NodG, cs = o.cells ∧ In64 o.id ∧ In64 o.parent ∧ o.name.size ≤ maxLen ∧ CameP W o.pao o.props := by
  obtain ⟨xs, n, _, _, hl, hlen, hf⟩ := DataW.trod_struct Tryd.underlying50 h
  rw [cellsN] at hl
  match cs, hl with
  | [c0, c1, c2, c3], _ =>
  match xs, hlen with
  | [x0, x1, x2, x3], _ =>
  have h0 : DataW.trod enc Tryd.prog W 0 (fun _ => true) true n 2 [c0] = some x0 := by
    have h : DataW.trod enc Tryd.prog W 0 (fun _ => true) true n 2 (([c0, c1, c2, c3].drop 0).take (Tryd.prog.cellsOf 2)) = some x0 := hf 0 _ rfl
    rw [cellsI] at h
    exact h
  have h1 : DataW.trod enc Tryd.prog W 0 (fun _ => true) true n 2 [c1] = some x1 := by
    have h : DataW.trod enc Tryd.prog W 0 (fun _ => true) true n 2 (([c0, c1, c2, c3].drop 1).take (Tryd.prog.cellsOf 2)) = some x1 := hf 1 _ rfl
    rw [cellsI] at h
    exact h
  have h2 : DataW.trod enc Tryd.prog W 0 (fun _ => true) true n 9 [c2] = some x2 := by
    have h : DataW.trod enc Tryd.prog W 0 (fun _ => true) true n 9 (([c0, c1, c2, c3].drop 2).take (Tryd.prog.cellsOf 9)) = some x2 := hf 2 _ rfl
    rw [cellsS] at h
    exact h
  have h3 : DataW.trod enc Tryd.prog W 0 (fun _ => true) true n 48 [c3] = some x3 := by
    have h : DataW.trod enc Tryd.prog W 0 (fun _ => true) true n 48 (([c0, c1, c2, c3].drop 3).take (Tryd.prog.cellsOf 48)) = some x3 := hf 3 _ rfl
    rw [cellsPS] at h
    exact h
  obtain ⟨n0, e0, _, w0⟩ := DataW.trod_int Tryd.underlying2 h0
  obtain ⟨n1, e1, _, w1⟩ := DataW.trod_int Tryd.underlying2 h1
  obtain ⟨s2, e2, _, z2⟩ := DataW.trod_string Tryd.underlying9 h2
  obtain ⟨ao, cap, l, e3, hp⟩ := props_of_trod h3
  cases e0; cases e1; cases e2; subst e3
  exact ⟨⟨n0, n1, s2, l, ao, cap⟩, rfl, lit64 w0, lit64 w1, z2, hp⟩
/-- A tree that comes in. -/
def CameTree (w : World) (ao : Option Addr) (l : List NodG) : Prop := l.length ≤ maxLen ∧ NodesAt w ao l ∧ (∀ n ∈ l, Sized1 maxLen n) ∧ Rng l
set_option maxRecDepth 100000 in
theorem cameTree {H : Type} {enc : TypeId × Value → H} {W : World} {base : Nat} {v : Value} {d : DataW H} {p : List MemPlace} (hv : Value.okWide Tryd.prog W .any base 24 v) (h : DataW.Trod enc Tryd.prog W 0 (fun _ => true) true 24 v d p) :
    ∃ ao cap l, v = .agg #[.slice ao l.length cap] ∧ CameTree W ao l := by
  obtain ⟨fuel, hf⟩ := h
  simp only [Value.okWide, Tryd.underlying24] at hv
  obtain ⟨cs, rfl, _, _⟩ := hv
  obtain ⟨xs, n, _, _, hl, hlen, hfd⟩ := DataW.trod_struct Tryd.underlying24 hf
  rw [cellsT] at hl
  have hcl : (Value.agg cs).cells.toList = cs.toList := by simp [Value.cells]
  rw [hcl] at hl hfd
  obtain ⟨c0, hc0⟩ : ∃ c0, cs.toList = [c0] := by
    match e : cs.toList, hl with
    | [c0], _ => exact ⟨c0, rfl⟩
  match xs, hlen with
  | [x0], _ =>
  have h0 : DataW.trod enc Tryd.prog W 0 (fun _ => true) true n 22 [c0] = some x0 := by
    have h : DataW.trod enc Tryd.prog W 0 (fun _ => true) true n 22 ((cs.toList.drop 0).take (Tryd.prog.cellsOf 22)) = some x0 := hfd 0 _ rfl
    rw [cellsNS, hc0] at h
    exact h
  have hcs : cs = #[c0] := by rw [← Array.toArray_toList (xs := cs), hc0]
  subst hcs
  rcases Deep.open_slice Tryd.underlying22 h0 with ⟨hcs, hx⟩ | ⟨a, len', cap', m, n', D, Pl, hcs, _, hl', hm, hmm, hx, hel⟩
  · cases hcs
    exact ⟨none, 0, [], rfl, by unfold maxLen; simp, fun j hj => absurd hj (by simp), fun o ho => absurd ho (by simp), fun o ho => absurd ho (by simp)⟩
  · cases hcs
    simp only [if_true] at hmm
    subst hmm
    have each : ∀ i, i < len' → ∃ o : NodG, (∀ f, f < 4 → W.cell? ((a.add (i * 4)).add f) = o.cells[f]?) ∧ In64 o.id ∧ In64 o.parent ∧ o.name.size ≤ maxLen ∧ CameP W o.pao o.props := fun i hi => by
      obtain ⟨cs', h1, h2⟩ := hel i (by omega)
      obtain ⟨o, rfl, z⟩ := nod_of_trod h2
      rw [cellsN] at h1
      obtain ⟨_, _, hc⟩ := World.cells?_some h1
      exact ⟨o, hc, z⟩
    haveI : Inhabited NodG := ⟨⟨0, 0, ⟨#[]⟩, [], none, 0⟩⟩
    obtain ⟨f, hfn⟩ := Deep.choose_lt each
    refine ⟨some a, _, (List.range len').map f, by simp; rfl, by simp; omega, fun j hj => ?_, fun o ho => ?_, fun o ho => ?_⟩
    · have hj' : j < len' := by simpa using hj
      obtain ⟨hc, _, _, _, hp⟩ := hfn j hj'
      obtain ⟨b, off, spot⟩ := a
      have h0 := (hfn 0 (by omega)).1 0 (by omega)
      have hspot : spot = none := by simpa [Addr.add] using World.cell?_spot h0
      subst hspot
      have hc' : ∀ q, q < 4 → W.cell? ⟨b, off + j * 4 + q, none⟩ = (f j).cells[q]? := fun q hq => by
        have := hc q hq
        rwa [add_plain, add_plain] at this
      have e : ((List.range len').map f)[j] = f j := by simp
      rw [e]
      exact ⟨b, off, rfl, cell_lt (hc' 0 (by omega)), ⟨hc' 0 (by omega), hc' 1 (by omega), hc' 2 (by omega), hc' 3 (by omega)⟩, hp.2.1⟩
    · obtain ⟨i, hi, rfl⟩ := List.mem_map.1 ho
      obtain ⟨_, _, _, z, hp⟩ := hfn i (List.mem_range.1 hi)
      exact ⟨z, hp.1, hp.2.2⟩
    · obtain ⟨i, hi, rfl⟩ := List.mem_map.1 ho
      obtain ⟨_, z1, z2, _, _⟩ := hfn i (List.mem_range.1 hi)
      exact ⟨z1, z2⟩
end Go.Proofs.YtmidembbanlleafDoor.OpR
