/- Proves what the harness does with what a hand tells: compared, marked, looked at. -/
import Derived.Test.YtohepdnmjaegdaaDoorCliF
import Derived.Test.YtohepdnmjaegdaaDoorCliT
import Derived.Test.YtohepdnmjaegdaaDoorOpH
namespace Go.Proofs.YtohepdnmjaegdaaDoor.OpR
open Go.ChangeShapes Go.WideShapes Go.ChangeAt Go.RowKit
set_option linter.unusedVariables false

/-- What is told, in a variable. -/
def Fif (W : World) (g : Nat) (x : OutV) (la : Option Addr) (lc : Nat) (oa : Option Addr) (oc : Nat) : Prop := W.heap[g]? = some (.cells #[.int .i64 x.cl.repl, .int .i64 x.cl.clock, .slice la x.cl.log.length lc, .int .i64 x.cl.acked, .slice oa x.cl.out.length oc, .int .i64 x.cl.got, .int .i64 x.op.time, .int .i64 x.op.repl, .int .i64 x.op.kind, .int .i64 x.op.node, .int .i64 x.op.parent, .string x.op.name, .string x.op.value, .int .i64 x.many, .int .i64 x.code] 33 (0, 0))
theorem Fif.lt {W : World} {g : Nat} {x : OutV} {la : Option Addr} {lc : Nat} {oa : Option Addr} {oc : Nat} (h : Fif W g x la lc oa oc) : g < W.heap.size := (Array.getElem?_eq_some_iff.1 h).1
theorem Fif.step {W W' : World} {g : Nat} {x : OutV} {la : Option Addr} {lc : Nat} {oa : Option Addr} {oc : Nat} (h : Fif W g x la lc oa oc) (hb : Below W.heap.size W W') : Fif W' g x la lc oa oc := (hb.block g h.lt).trans h
theorem Fif.keep {W W' : World} {g : Nat} {x : OutV} {la : Option Addr} {lc : Nat} {oa : Option Addr} {oc : Nat} (h : Fif W g x la lc oa oc) (hb : W'.heap[g]? = W.heap[g]?) : Fif W' g x la lc oa oc := hb.trans h
theorem Fif.new (W : World) (x : OutV) (la : Option Addr) (lc : Nat) (oa : Option Addr) (oc : Nat) : Fif (W.alloc (.cells #[.int .i64 x.cl.repl, .int .i64 x.cl.clock, .slice la x.cl.log.length lc, .int .i64 x.cl.acked, .slice oa x.cl.out.length oc, .int .i64 x.cl.got, .int .i64 x.op.time, .int .i64 x.op.repl, .int .i64 x.op.kind, .int .i64 x.op.node, .int .i64 x.op.parent, .string x.op.name, .string x.op.value, .int .i64 x.many, .int .i64 x.code] 33)) W.heap.size x la lc oa oc := heap_alloc_new W _
theorem Fif.cells {W : World} {g : Nat} {x : OutV} {la : Option Addr} {lc : Nat} {oa : Option Addr} {oc : Nat} (h : Fif W g x la lc oa oc) :
    W.cell? ⟨g, 0, none⟩ = some (.int .i64 x.cl.repl) ∧ W.cell? ⟨g, 1, none⟩ = some (.int .i64 x.cl.clock) ∧ W.cell? ⟨g, 2, none⟩ = some (.slice la x.cl.log.length lc) ∧ W.cell? ⟨g, 3, none⟩ = some (.int .i64 x.cl.acked) ∧ W.cell? ⟨g, 4, none⟩ = some (.slice oa x.cl.out.length oc) ∧ W.cell? ⟨g, 5, none⟩ = some (.int .i64 x.cl.got) ∧ W.cell? ⟨g, 6, none⟩ = some (.int .i64 x.op.time) ∧ W.cell? ⟨g, 7, none⟩ = some (.int .i64 x.op.repl) ∧ W.cell? ⟨g, 8, none⟩ = some (.int .i64 x.op.kind) ∧ W.cell? ⟨g, 9, none⟩ = some (.int .i64 x.op.node) ∧ W.cell? ⟨g, 10, none⟩ = some (.int .i64 x.op.parent) ∧ W.cell? ⟨g, 11, none⟩ = some (.string x.op.name) ∧ W.cell? ⟨g, 12, none⟩ = some (.string x.op.value) ∧ W.cell? ⟨g, 13, none⟩ = some (.int .i64 x.many) ∧ W.cell? ⟨g, 14, none⟩ = some (.int .i64 x.code) ∧ ∀ i, W.frozen? ⟨g, i, none⟩ = false := fif h
set_option maxRecDepth 100000 in
set_option maxHeartbeats 1000000 in
theorem eqClientOut_same (x : OutV) (la oa lb ob : Option Addr) (lc oc ld od : Nat) (w : World) (hl : x.cl.log.length ≤ maxLen) (ho : x.cl.out.length ≤ maxLen) (hA : OpsAt w la x.cl.log) (hC : OpsAt w oa x.cl.out) (hB : OpsAt w lb x.cl.log) (hD : OpsAt w ob x.cl.out) :
    Calls Tryd.prog 11 #[x.agg la lc oa oc, x.agg lb ld ob od] w fun e w' => e = .returned (.bool true) ∧ Below w.heap.size w w' := by
  have h1 := fun W (hW : Below w.heap.size w W) => eqClient_same x.cl la oa lb ob lc oc ld od W hl ho (hA.stays hW) (hC.stays hW) (hB.stays hW) (hD.stays hW)
  have h2 := fun W => eqOp_same x.op W
  have hF := Fif.new w x la lc oa oc
  have hb0 : Below w.heap.size w (w.alloc (.cells #[.int .i64 x.cl.repl, .int .i64 x.cl.clock, .slice la x.cl.log.length lc, .int .i64 x.cl.acked, .slice oa x.cl.out.length oc, .int .i64 x.cl.got, .int .i64 x.op.time, .int .i64 x.op.repl, .int .i64 x.op.kind, .int .i64 x.op.node, .int .i64 x.op.parent, .string x.op.name, .string x.op.value, .int .i64 x.many, .int .i64 x.code] 33)) := (Below.refl _ _).alloc (Nat.le_refl _) _
  have hG := Fif.new (w.alloc (.cells #[.int .i64 x.cl.repl, .int .i64 x.cl.clock, .slice la x.cl.log.length lc, .int .i64 x.cl.acked, .slice oa x.cl.out.length oc, .int .i64 x.cl.got, .int .i64 x.op.time, .int .i64 x.op.repl, .int .i64 x.op.kind, .int .i64 x.op.node, .int .i64 x.op.parent, .string x.op.name, .string x.op.value, .int .i64 x.many, .int .i64 x.code] 33)) x lb ld ob od
  have hb1 := hb0.alloc hb0.size (.cells #[.int .i64 x.cl.repl, .int .i64 x.cl.clock, .slice lb x.cl.log.length ld, .int .i64 x.cl.acked, .slice ob x.cl.out.length od, .int .i64 x.cl.got, .int .i64 x.op.time, .int .i64 x.op.repl, .int .i64 x.op.kind, .int .i64 x.op.node, .int .i64 x.op.parent, .string x.op.name, .string x.op.value, .int .i64 x.many, .int .i64 x.code] 33)
  have HF := hide (hF.step ((Below.refl _ _).alloc (Nat.le_refl _) (.cells #[.int .i64 x.cl.repl, .int .i64 x.cl.clock, .slice lb x.cl.log.length ld, .int .i64 x.cl.acked, .slice ob x.cl.out.length od, .int .i64 x.cl.got, .int .i64 x.op.time, .int .i64 x.op.repl, .int .i64 x.op.kind, .int .i64 x.op.node, .int .i64 x.op.parent, .string x.op.name, .string x.op.value, .int .i64 x.many, .int .i64 x.code] 33)))
  rw [show (w.alloc (.cells #[.int .i64 x.cl.repl, .int .i64 x.cl.clock, .slice la x.cl.log.length lc, .int .i64 x.cl.acked, .slice oa x.cl.out.length oc, .int .i64 x.cl.got, .int .i64 x.op.time, .int .i64 x.op.repl, .int .i64 x.op.kind, .int .i64 x.op.node, .int .i64 x.op.parent, .string x.op.name, .string x.op.value, .int .i64 x.many, .int .i64 x.code] 33)).heap.size = w.heap.size + 1 by simp] at hG
  have HG := hide hG
  have HB := hide hb1
  have H1 := hide h1
  have H2 := hide h2
  obtain ⟨p0, p1, p2, p3, p4, p5, p6, p7, p8, p9, p10, p11, p12, p13, p14, _⟩ := HF.out.cells
  obtain ⟨q0, q1, q2, q3, q4, q5, q6, q7, q8, q9, q10, q11, q12, q13, q14, _⟩ := HG.out.cells
  unfold OutV.agg
  unfold CliV.agg OpV.agg at *
  clear h1 h2 hA hC hB hD hF hG hb0 hb1 hl ho
  go_enter Tryd.func11, Tryd.ntmps11
  go_wp2_with (first | (go_at_call 12; (refine (H1.out _ HB.out).mono ?_); rintro e w1 ⟨rfl, hb1⟩; have HF1 := hide (HF.out.step hb1); have HG1 := hide (HG.out.step hb1); have HB1 := hide (HB.out.trans (hb1.mono HB.out.size)); clear p0 p1 p2 p3 p4 p5 p6 p7 p8 p9 p10 p11 p12 p13 p14 q0 q1 q2 q3 q4 q5 q6 q7 q8 q9 q10 q11 q12 q13 q14 hb1; obtain ⟨p0, p1, p2, p3, p4, p5, p6, p7, p8, p9, p10, p11, p12, p13, p14, _⟩ := HF1.out.cells; obtain ⟨q0, q1, q2, q3, q4, q5, q6, q7, q8, q9, q10, q11, q12, q13, q14, _⟩ := HG1.out.cells) | (go_at_call 33; (refine (H2.out _).mono ?_); rintro e w2 ⟨rfl, hb2⟩; have HF2 := hide (HF1.out.step hb2); have HG2 := hide (HG1.out.step hb2); have HB2 := hide (HB1.out.trans (hb2.mono HB1.out.size)); clear p0 p1 p2 p3 p4 p5 p6 p7 p8 p9 p10 p11 p12 p13 p14 q0 q1 q2 q3 q4 q5 q6 q7 q8 q9 q10 q11 q12 q13 q14 hb2; obtain ⟨p0, p1, p2, p3, p4, p5, p6, p7, p8, p9, p10, p11, p12, p13, p14, _⟩ := HF2.out.cells; obtain ⟨q0, q1, q2, q3, q4, q5, q6, q7, q8, q9, q10, q11, q12, q13, q14, _⟩ := HG2.out.cells) | fail)
  go_ret
  exact ⟨rfl, HB2.out⟩
set_option maxRecDepth 100000 in
set_option maxHeartbeats 1000000 in
theorem markClientOut_any (x : OutV) (la oa : Option Addr) (lc oc : Nat) (w : World) (hl : x.cl.log.length ≤ 1048576) (ho : x.cl.out.length ≤ 1048576) (hM : MarkC w x.cl la oa) :
    Calls Tryd.prog 16 #[x.agg la lc oa oc, .int .i64 1] w fun e w' => e = .returned (.int .i64 ((1 + 7 * x.cl.log.length + 7 * x.cl.out.length : Nat) : Int)) ∧ OpsAt w' la (marks 1 x.cl.log.length) ∧ OpsAt w' oa (marks (1 + 7 * x.cl.log.length) x.cl.out.length) ∧ Marked la oa w w' := by
  have hF := Fif.new w x la lc oa oc
  have hb0 : Below w.heap.size w (w.alloc (.cells #[.int .i64 x.cl.repl, .int .i64 x.cl.clock, .slice la x.cl.log.length lc, .int .i64 x.cl.acked, .slice oa x.cl.out.length oc, .int .i64 x.cl.got, .int .i64 x.op.time, .int .i64 x.op.repl, .int .i64 x.op.kind, .int .i64 x.op.node, .int .i64 x.op.parent, .string x.op.name, .string x.op.value, .int .i64 x.many, .int .i64 x.code] 33)) := (Below.refl _ _).alloc (Nat.le_refl _) _
  have h1 := markClient_any x.cl la oa lc oc 1 _ hl ho (by omega) (by omega) (hM.below hb0)
  rw [show ((1 : Nat) : Int) = 1 from rfl] at h1
  have HB := hide hb0
  have H1 := hide h1
  obtain ⟨p0, p1, p2, p3, p4, p5, p6, p7, p8, p9, p10, p11, p12, p13, p14, _⟩ := hF.cells
  unfold OutV.agg
  unfold CliV.agg at *
  clear h1 hF hb0 hM
  go_enter Tryd.func16, Tryd.ntmps16
  go_wp2_with (first | (go_at_call 14; (refine H1.out.mono ?_); rintro e w1 ⟨rfl, hx, hy, hm⟩; have HX := hide (And.intro hx (And.intro hy hm)); clear hx hy hm p0 p1 p2 p3 p4 p5 p6 p7 p8 p9 p10 p11 p12 p13 p14) | fail)
  go_ret
  obtain ⟨hx, hy, hm⟩ := HX.out
  have hb := HB.out
  exact ⟨rfl, hx, hy, hm.os.trans hb.os, hm.tape.trans hb.tape, hm.output.trans hb.output, Nat.le_trans hb.size hm.size, fun k hk h1 h2 => (hm.block k (by have := hb.size; omega) h1 h2).trans (hb.block k hk)⟩
set_option maxRecDepth 100000 in
set_option maxHeartbeats 1000000 in
theorem heldClientOut_any (x : OutV) (la oa : Option Addr) (lc oc : Nat) (w : World) (hl : x.cl.log.length ≤ 1048576) (ho : x.cl.out.length ≤ 1048576) (hA : OpsAt w la (marks 1 x.cl.log.length)) (hC : OpsAt w oa (marks (1 + 7 * x.cl.log.length) x.cl.out.length)) :
    Calls Tryd.prog 17 #[x.agg la lc oa oc, .int .i64 1] w fun e w' => e = .returned (.int .i64 ((1 + 7 * x.cl.log.length + 7 * x.cl.out.length : Nat) : Int)) ∧ Below w.heap.size w w' := by
  have hF := Fif.new w x la lc oa oc
  have hb0 : Below w.heap.size w (w.alloc (.cells #[.int .i64 x.cl.repl, .int .i64 x.cl.clock, .slice la x.cl.log.length lc, .int .i64 x.cl.acked, .slice oa x.cl.out.length oc, .int .i64 x.cl.got, .int .i64 x.op.time, .int .i64 x.op.repl, .int .i64 x.op.kind, .int .i64 x.op.node, .int .i64 x.op.parent, .string x.op.name, .string x.op.value, .int .i64 x.many, .int .i64 x.code] 33)) := (Below.refl _ _).alloc (Nat.le_refl _) _
  have h1 := heldClient_any x.cl la oa lc oc _ hl ho (hA.stays hb0) (hC.stays hb0)
  obtain ⟨m, hm⟩ : ∃ m : Nat, m = 1 + 7 * x.cl.log.length + 7 * x.cl.out.length := ⟨_, rfl⟩
  rw [← hm] at h1 ⊢
  have hneg : ¬ ((m : Int) < 0) := by omega
  have HB := hide hb0
  have H1 := hide h1
  obtain ⟨p0, p1, p2, p3, p4, p5, p6, p7, p8, p9, p10, p11, p12, p13, p14, _⟩ := hF.cells
  unfold OutV.agg
  unfold CliV.agg at *
  clear h1 hF hb0 hA hC hm
  go_enter Tryd.func17, Tryd.ntmps17
  go_wp2_with (first | (go_at_call 35; (refine H1.out.mono ?_); rintro e w1 ⟨rfl, hb1⟩; have HB1 := hide (HB.out.trans (hb1.mono HB.out.size))) | fail)
  all_goals (try (exfalso; omega))
  all_goals (
    go_ret
    exact ⟨rfl, HB1.out⟩)
end Go.Proofs.YtohepdnmjaegdaaDoor.OpR
