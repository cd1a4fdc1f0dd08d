/- What is known of clients that come in as arguments. -/
import Derived.Test.YtdjjpaleemnikaaCameOp
import Derived.Test.YtdjjpaleemnikaaCliA
namespace Go.Proofs.Ytdjjpaleemnikaa.OpR
open Go.ChangeShapes Go.WideShapes Go.ChangeAt Go.RowKit
set_option linter.unusedVariables false

theorem cellsOS : Try.prog.cellsOf 22 = 1 := by kernel_rfl
/-- A number of 64 bits. -/
def Num64 (x : Int) : Prop := -9223372036854775808 ≤ x ∧ x ≤ 9223372036854775807
theorem num64 {x : Int} (h : (Lit.int .i64 x).wf = true) : Num64 x := by
  simp [Lit.wf, IntKind.min, IntKind.max, IntKind.signed, IntKind.bits] at h
  unfold Num64
  omega
theorem cell_lt' {w : World} {b p : Nat} {v : Value} (h : w.cell? ⟨b, p, none⟩ = some v) : b < w.heap.size := by
  rcases Nat.lt_or_ge b w.heap.size with h' | h'
  · exact h'
  · simp [World.cell?, Array.getElem?_eq_none h'] at h
set_option maxRecDepth 100000 in
theorem ops_of_trod {H : Type} {enc : TypeId × Value → H} {W : World} {fuel : Nat} {c : Value} {x : DataW H × List MemPlace} (hf : DataW.trod enc Try.prog W 0 (fun _ => true) true fuel 22 [c] = some x) :
    ∃ ao cap l, c = .slice ao (List.length l) cap ∧ l.length ≤ maxLen ∧ OpsAt W ao l ∧ ∀ o ∈ l, o.name.size ≤ maxLen ∧ o.value.size ≤ maxLen := by
  rcases Deep.open_slice Try.underlying22 hf with ⟨hcs, hx⟩ | ⟨a, len', cap', m, n, D, Pl, hcs, _, hl, hm, hmm, hx, hel⟩
  · cases hcs
    exact ⟨none, 0, [], rfl, by unfold maxLen; simp, fun j hj => absurd hj (by simp), fun o ho => absurd ho (by simp)⟩
  · cases hcs
    simp only [if_true] at hmm
    subst hmm
    have each : ∀ i, i < len' → ∃ o : OpV, (∀ f, f < 7 → W.cell? ((a.add (i * 7)).add f) = o.cells[f]?) ∧ o.name.size ≤ maxLen ∧ o.value.size ≤ maxLen := fun i hi => by
      obtain ⟨cs', h1, h2⟩ := hel i (by omega)
      obtain ⟨o, rfl, z1, z2⟩ := op_of_trod h2
      rw [cellsOp] at h1
      obtain ⟨_, _, hc⟩ := World.cells?_some h1
      exact ⟨o, hc, z1, z2⟩
    haveI : Inhabited OpV := ⟨⟨0, 0, 0, 0, 0, ⟨#[]⟩, ⟨#[]⟩⟩⟩
    obtain ⟨f, hfn⟩ := Deep.choose_lt each
    refine ⟨some a, _, (List.range len').map f, by simp; rfl, by simp; omega, fun j hj => ?_, fun o ho => ?_⟩
    · have hj' : j < len' := by simpa using hj
      obtain ⟨hc, _, _⟩ := hfn j hj'
      obtain ⟨b, off, spot⟩ := a
      have h0 := (hfn 0 (by omega)).1 0 (by omega)
      have hspot : spot = none := by simpa [Addr.add] using World.cell?_spot h0
      subst hspot
      have hc' : ∀ q, q < 7 → W.cell? ⟨b, off + j * 7 + q, none⟩ = (f j).cells[q]? := fun q hq => by
        have := hc q hq
        rwa [add_plain, add_plain] at this
      have e : ((List.range len').map f)[j] = f j := by simp
      rw [e]
      exact ⟨b, off, rfl, cell_lt' (hc' 0 (by omega)), hc' 0 (by omega), hc' 1 (by omega), hc' 2 (by omega), hc' 3 (by omega), hc' 4 (by omega), hc' 5 (by omega), hc' 6 (by omega)⟩
    · obtain ⟨i, hi, rfl⟩ := List.mem_map.1 ho
      exact ⟨(hfn i (List.mem_range.1 hi)).2.1, (hfn i (List.mem_range.1 hi)).2.2⟩
/-- A client that comes in. -/
structure CameCli (w : World) (la oa : Option Addr) (c : CliV) : Prop where
  sz : CSz maxLen c
  log : OpsAt w la c.log
  out : OpsAt w oa c.out
  n0 : Num64 c.repl
  n1 : Num64 c.clock
  n2 : Num64 c.acked
  n3 : Num64 c.got
end Go.Proofs.Ytdjjpaleemnikaa.OpR
