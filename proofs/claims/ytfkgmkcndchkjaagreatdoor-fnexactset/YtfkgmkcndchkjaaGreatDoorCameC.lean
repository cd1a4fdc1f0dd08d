/- What is known of clients that come in as arguments. -/
import Derived.Test.YtfkgmkcndchkjaaGreatDoorCameOp
import Derived.Test.YtfkgmkcndchkjaaGreatDoorCliA
namespace Go.Proofs.YtfkgmkcndchkjaaGreatDoor.OpR
open Go.ChangeShapes Go.WideShapes Go.ChangeAt Go.RowKit
set_option linter.unusedVariables false

theorem cellsC : Tryz.prog.cellsOf 24 = 6 := by kernel_rfl
theorem cellsOS : Tryz.prog.cellsOf 22 = 1 := by kernel_rfl
/-- A number of 64 bits. -/
def Num64 (x : Int) : Prop := -9223372036854775808 ≤ x ∧ x ≤ 9223372036854775807
theorem num64 {x : Int} (h : (Lit.int .i64 x).wf = true) : Num64 x := by
  simp [Lit.wf, IntKind.min, IntKind.max, IntKind.signed, IntKind.bits] at h
  unfold Num64
  omega
theorem cell_lt' {w : World} {b p : Nat} {v : Value} (h : w.cell? ⟨b, p, none⟩ = some v) : b < w.heap.size := by
  rcases Nat.lt_or_ge b w.heap.size with h' | h'
  · exact h'
  · simp [World.cell?, Array.getElem?_eq_none h'] at h
set_option maxRecDepth 100000 in
theorem ops_of_trod {H : Type} {enc : TypeId × Value → H} {W : World} {fuel : Nat} {c : Value} {x : DataW H × List MemPlace} (hf : DataW.trod enc Tryz.prog W 0 (fun _ => true) true fuel 22 [c] = some x) :
    ∃ ao cap l, c = .slice ao (List.length l) cap ∧ l.length ≤ maxLen ∧ OpsAt W ao l ∧ ∀ o ∈ l, o.name.size ≤ maxLen ∧ o.value.size ≤ maxLen := by
  rcases Deep.open_slice Tryz.underlying22 hf with ⟨hcs, hx⟩ | ⟨a, len', cap', m, n, D, Pl, hcs, _, hl, hm, hmm, hx, hel⟩
  · cases hcs
    exact ⟨none, 0, [], rfl, by unfold maxLen; simp, fun j hj => absurd hj (by simp), fun o ho => absurd ho (by simp)⟩
  · cases hcs
    simp only [if_true] at hmm
    subst hmm
    have each : ∀ i, i < len' → ∃ o : OpV, (∀ f, f < 7 → W.cell? ((a.add (i * 7)).add f) = o.cells[f]?) ∧ o.name.size ≤ maxLen ∧ o.value.size ≤ maxLen := fun i hi => by
      obtain ⟨cs', h1, h2⟩ := hel i (by omega)
      obtain ⟨o, rfl, z1, z2⟩ := op_of_trod h2
      rw [cellsOp] at h1
      obtain ⟨_, _, hc⟩ := World.cells?_some h1
      exact ⟨o, hc, z1, z2⟩
    haveI : Inhabited OpV := ⟨⟨0, 0, 0, 0, 0, ⟨#[]⟩, ⟨#[]⟩⟩⟩
    obtain ⟨f, hfn⟩ := Deep.choose_lt each
    refine ⟨some a, _, (List.range len').map f, by simp; rfl, by simp; omega, fun j hj => ?_, fun o ho => ?_⟩
    · have hj' : j < len' := by simpa using hj
      obtain ⟨hc, _, _⟩ := hfn j hj'
      obtain ⟨b, off, spot⟩ := a
      have h0 := (hfn 0 (by omega)).1 0 (by omega)
      have hspot : spot = none := by simpa [Addr.add] using World.cell?_spot h0
      subst hspot
      have hc' : ∀ q, q < 7 → W.cell? ⟨b, off + j * 7 + q, none⟩ = (f j).cells[q]? := fun q hq => by
        have := hc q hq
        rwa [add_plain, add_plain] at this
      have e : ((List.range len').map f)[j] = f j := by simp
      rw [e]
      exact ⟨b, off, rfl, cell_lt' (hc' 0 (by omega)), hc' 0 (by omega), hc' 1 (by omega), hc' 2 (by omega), hc' 3 (by omega), hc' 4 (by omega), hc' 5 (by omega), hc' 6 (by omega)⟩
    · obtain ⟨i, hi, rfl⟩ := List.mem_map.1 ho
      exact ⟨(hfn i (List.mem_range.1 hi)).2.1, (hfn i (List.mem_range.1 hi)).2.2⟩
/-- A client that comes in. -/
structure CameCli (w : World) (la oa : Option Addr) (c : CliV) : Prop where
  sz : CSz maxLen c
  log : OpsAt w la c.log
  out : OpsAt w oa c.out
  n0 : Num64 c.repl
  n1 : Num64 c.clock
  n2 : Num64 c.acked
  n3 : Num64 c.got
set_option maxRecDepth 100000 in
theorem cameCli {H : Type} {enc : TypeId × Value → H} {W : World} {base : Nat} {v : Value} {d : DataW H} {p : List MemPlace} (hv : Value.okWide Tryz.prog W .any base 24 v) (h : DataW.Trod enc Tryz.prog W 0 (fun _ => true) true 24 v d p) :
    ∃ la lc oa oc c, v = CliV.agg c la lc oa oc ∧ CameCli W la oa c := by
  obtain ⟨fuel, hf⟩ := h
  simp only [Value.okWide, Tryz.underlying24] at hv
  obtain ⟨cs, rfl, _, _⟩ := hv
  obtain ⟨xs, n, _, _, hl, hlen, hfd⟩ := DataW.trod_struct Tryz.underlying24 hf
  rw [cellsC] at hl
  have hcl : (Value.agg cs).cells.toList = cs.toList := by simp [Value.cells]
  rw [hcl] at hl hfd
  obtain ⟨c0, c1, c2, c3, c4, c5, hc0⟩ : ∃ c0 c1 c2 c3 c4 c5, cs.toList = [c0, c1, c2, c3, c4, c5] := by
    match e : cs.toList, hl with
    | [c0, c1, c2, c3, c4, c5], _ => exact ⟨c0, c1, c2, c3, c4, c5, rfl⟩
  match xs, hlen with
  | [x0, x1, x2, x3, x4, x5], _ =>
  have h0 : DataW.trod enc Tryz.prog W 0 (fun _ => true) true n 2 [c0] = some x0 := by
    have h : DataW.trod enc Tryz.prog W 0 (fun _ => true) true n 2 ((cs.toList.drop 0).take (Tryz.prog.cellsOf 2)) = some x0 := hfd 0 _ rfl
    rw [cellsI, hc0] at h
    exact h
  have h1 : DataW.trod enc Tryz.prog W 0 (fun _ => true) true n 2 [c1] = some x1 := by
    have h : DataW.trod enc Tryz.prog W 0 (fun _ => true) true n 2 ((cs.toList.drop 1).take (Tryz.prog.cellsOf 2)) = some x1 := hfd 1 _ rfl
    rw [cellsI, hc0] at h
    exact h
  have h2 : DataW.trod enc Tryz.prog W 0 (fun _ => true) true n 22 [c2] = some x2 := by
    have h : DataW.trod enc Tryz.prog W 0 (fun _ => true) true n 22 ((cs.toList.drop 2).take (Tryz.prog.cellsOf 22)) = some x2 := hfd 2 _ rfl
    rw [cellsOS, hc0] at h
    exact h
  have h3 : DataW.trod enc Tryz.prog W 0 (fun _ => true) true n 2 [c3] = some x3 := by
    have h : DataW.trod enc Tryz.prog W 0 (fun _ => true) true n 2 ((cs.toList.drop 3).take (Tryz.prog.cellsOf 2)) = some x3 := hfd 3 _ rfl
    rw [cellsI, hc0] at h
    exact h
  have h4 : DataW.trod enc Tryz.prog W 0 (fun _ => true) true n 22 [c4] = some x4 := by
    have h : DataW.trod enc Tryz.prog W 0 (fun _ => true) true n 22 ((cs.toList.drop 4).take (Tryz.prog.cellsOf 22)) = some x4 := hfd 4 _ rfl
    rw [cellsOS, hc0] at h
    exact h
  have h5 : DataW.trod enc Tryz.prog W 0 (fun _ => true) true n 2 [c5] = some x5 := by
    have h : DataW.trod enc Tryz.prog W 0 (fun _ => true) true n 2 ((cs.toList.drop 5).take (Tryz.prog.cellsOf 2)) = some x5 := hfd 5 _ rfl
    rw [cellsI, hc0] at h
    exact h
  have hcs : cs = #[c0, c1, c2, c3, c4, c5] := by rw [← Array.toArray_toList (xs := cs), hc0]
  subst hcs
  obtain ⟨n0, e0, _, w0⟩ := DataW.trod_int Tryz.underlying2 h0
  obtain ⟨n1, e1, _, w1⟩ := DataW.trod_int Tryz.underlying2 h1
  obtain ⟨la, lc, l, e2, z2, a2, s2⟩ := ops_of_trod h2
  obtain ⟨n3, e3, _, w3⟩ := DataW.trod_int Tryz.underlying2 h3
  obtain ⟨oa, oc, l4, e4, z4, a4, s4⟩ := ops_of_trod h4
  obtain ⟨n5, e5, _, w5⟩ := DataW.trod_int Tryz.underlying2 h5
  cases e0; cases e1; subst e2; cases e3; subst e4; cases e5
  exact ⟨la, lc, oa, oc, ⟨n0, n1, l, n3, l4, n5⟩, rfl, ⟨z2, z4, s2, s4⟩, a2, a4, num64 w0, num64 w1, num64 w3, num64 w5⟩
end Go.Proofs.YtfkgmkcndchkjaaGreatDoor.OpR
