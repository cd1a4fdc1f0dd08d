/- Proves what the harness does with what a hand tells: compared, marked, looked at. What a client's law keeps of its variables, over calls and marks. Proves the walk of the law FnExactTake. -/
import Derived.Test.YtkfjommoogmehaaDoorCliF
import Derived.Test.YtkfjommoogmehaaDoorCliT
import Derived.Test.YtkfjommoogmehaaDoorOpH
import Derived.Test.YtkfjommoogmehaaDoorTaB
import Derived.Test.YtkfjommoogmehaaDoorTaC
import Derived.Test.YtkfjommoogmehaaDoorCameC
namespace Go.Proofs.YtkfjommoogmehaaDoor.OpR
open Go.ChangeShapes Go.WideShapes Go.ChangeAt Go.RowKit
set_option linter.unusedVariables false

/-- What is told, in a variable. -/
def Fif (W : World) (g : Nat) (x : OutV) (la : Option Addr) (lc : Nat) (oa : Option Addr) (oc : Nat) : Prop := W.heap[g]? = some (.cells #[.int .i64 x.cl.repl, .int .i64 x.cl.clock, .slice la x.cl.log.length lc, .int .i64 x.cl.acked, .slice oa x.cl.out.length oc, .int .i64 x.cl.got, .int .i64 x.op.time, .int .i64 x.op.repl, .int .i64 x.op.kind, .int .i64 x.op.node, .int .i64 x.op.parent, .string x.op.name, .string x.op.value, .int .i64 x.many, .int .i64 x.code] 33 (0, 0))
theorem Fif.lt {W : World} {g : Nat} {x : OutV} {la : Option Addr} {lc : Nat} {oa : Option Addr} {oc : Nat} (h : Fif W g x la lc oa oc) : g < W.heap.size := (Array.getElem?_eq_some_iff.1 h).1
theorem Fif.step {W W' : World} {g : Nat} {x : OutV} {la : Option Addr} {lc : Nat} {oa : Option Addr} {oc : Nat} (h : Fif W g x la lc oa oc) (hb : Below W.heap.size W W') : Fif W' g x la lc oa oc := (hb.block g h.lt).trans h
theorem Fif.keep {W W' : World} {g : Nat} {x : OutV} {la : Option Addr} {lc : Nat} {oa : Option Addr} {oc : Nat} (h : Fif W g x la lc oa oc) (hb : W'.heap[g]? = W.heap[g]?) : Fif W' g x la lc oa oc := hb.trans h
theorem Fif.new (W : World) (x : OutV) (la : Option Addr) (lc : Nat) (oa : Option Addr) (oc : Nat) : Fif (W.alloc (.cells #[.int .i64 x.cl.repl, .int .i64 x.cl.clock, .slice la x.cl.log.length lc, .int .i64 x.cl.acked, .slice oa x.cl.out.length oc, .int .i64 x.cl.got, .int .i64 x.op.time, .int .i64 x.op.repl, .int .i64 x.op.kind, .int .i64 x.op.node, .int .i64 x.op.parent, .string x.op.name, .string x.op.value, .int .i64 x.many, .int .i64 x.code] 33)) W.heap.size x la lc oa oc := heap_alloc_new W _
theorem Fif.cells {W : World} {g : Nat} {x : OutV} {la : Option Addr} {lc : Nat} {oa : Option Addr} {oc : Nat} (h : Fif W g x la lc oa oc) :
    W.cell? ⟨g, 0, none⟩ = some (.int .i64 x.cl.repl) ∧ W.cell? ⟨g, 1, none⟩ = some (.int .i64 x.cl.clock) ∧ W.cell? ⟨g, 2, none⟩ = some (.slice la x.cl.log.length lc) ∧ W.cell? ⟨g, 3, none⟩ = some (.int .i64 x.cl.acked) ∧ W.cell? ⟨g, 4, none⟩ = some (.slice oa x.cl.out.length oc) ∧ W.cell? ⟨g, 5, none⟩ = some (.int .i64 x.cl.got) ∧ W.cell? ⟨g, 6, none⟩ = some (.int .i64 x.op.time) ∧ W.cell? ⟨g, 7, none⟩ = some (.int .i64 x.op.repl) ∧ W.cell? ⟨g, 8, none⟩ = some (.int .i64 x.op.kind) ∧ W.cell? ⟨g, 9, none⟩ = some (.int .i64 x.op.node) ∧ W.cell? ⟨g, 10, none⟩ = some (.int .i64 x.op.parent) ∧ W.cell? ⟨g, 11, none⟩ = some (.string x.op.name) ∧ W.cell? ⟨g, 12, none⟩ = some (.string x.op.value) ∧ W.cell? ⟨g, 13, none⟩ = some (.int .i64 x.many) ∧ W.cell? ⟨g, 14, none⟩ = some (.int .i64 x.code) ∧ ∀ i, W.frozen? ⟨g, i, none⟩ = false := fif h
set_option maxRecDepth 100000 in
set_option maxHeartbeats 1000000 in
theorem eqClientOut_same (x : OutV) (la oa lb ob : Option Addr) (lc oc ld od : Nat) (w : World) (hl : x.cl.log.length ≤ maxLen) (ho : x.cl.out.length ≤ maxLen) (hA : OpsAt w la x.cl.log) (hC : OpsAt w oa x.cl.out) (hB : OpsAt w lb x.cl.log) (hD : OpsAt w ob x.cl.out) :
    Calls Tryd.prog 10 #[x.agg la lc oa oc, x.agg lb ld ob od] w fun e w' => e = .returned (.bool true) ∧ Below w.heap.size w w' := by
  have h1 := fun W (hW : Below w.heap.size w W) => eqClient_same x.cl la oa lb ob lc oc ld od W hl ho (hA.stays hW) (hC.stays hW) (hB.stays hW) (hD.stays hW)
  have h2 := fun W => eqOp_same x.op W
  have hF := Fif.new w x la lc oa oc
  have hb0 : Below w.heap.size w (w.alloc (.cells #[.int .i64 x.cl.repl, .int .i64 x.cl.clock, .slice la x.cl.log.length lc, .int .i64 x.cl.acked, .slice oa x.cl.out.length oc, .int .i64 x.cl.got, .int .i64 x.op.time, .int .i64 x.op.repl, .int .i64 x.op.kind, .int .i64 x.op.node, .int .i64 x.op.parent, .string x.op.name, .string x.op.value, .int .i64 x.many, .int .i64 x.code] 33)) := (Below.refl _ _).alloc (Nat.le_refl _) _
  have hG := Fif.new (w.alloc (.cells #[.int .i64 x.cl.repl, .int .i64 x.cl.clock, .slice la x.cl.log.length lc, .int .i64 x.cl.acked, .slice oa x.cl.out.length oc, .int .i64 x.cl.got, .int .i64 x.op.time, .int .i64 x.op.repl, .int .i64 x.op.kind, .int .i64 x.op.node, .int .i64 x.op.parent, .string x.op.name, .string x.op.value, .int .i64 x.many, .int .i64 x.code] 33)) x lb ld ob od
  have hb1 := hb0.alloc hb0.size (.cells #[.int .i64 x.cl.repl, .int .i64 x.cl.clock, .slice lb x.cl.log.length ld, .int .i64 x.cl.acked, .slice ob x.cl.out.length od, .int .i64 x.cl.got, .int .i64 x.op.time, .int .i64 x.op.repl, .int .i64 x.op.kind, .int .i64 x.op.node, .int .i64 x.op.parent, .string x.op.name, .string x.op.value, .int .i64 x.many, .int .i64 x.code] 33)
  have HF := hide (hF.step ((Below.refl _ _).alloc (Nat.le_refl _) (.cells #[.int .i64 x.cl.repl, .int .i64 x.cl.clock, .slice lb x.cl.log.length ld, .int .i64 x.cl.acked, .slice ob x.cl.out.length od, .int .i64 x.cl.got, .int .i64 x.op.time, .int .i64 x.op.repl, .int .i64 x.op.kind, .int .i64 x.op.node, .int .i64 x.op.parent, .string x.op.name, .string x.op.value, .int .i64 x.many, .int .i64 x.code] 33)))
  rw [show (w.alloc (.cells #[.int .i64 x.cl.repl, .int .i64 x.cl.clock, .slice la x.cl.log.length lc, .int .i64 x.cl.acked, .slice oa x.cl.out.length oc, .int .i64 x.cl.got, .int .i64 x.op.time, .int .i64 x.op.repl, .int .i64 x.op.kind, .int .i64 x.op.node, .int .i64 x.op.parent, .string x.op.name, .string x.op.value, .int .i64 x.many, .int .i64 x.code] 33)).heap.size = w.heap.size + 1 by simp] at hG
  have HG := hide hG
  have HB := hide hb1
  have H1 := hide h1
  have H2 := hide h2
  obtain ⟨p0, p1, p2, p3, p4, p5, p6, p7, p8, p9, p10, p11, p12, p13, p14, _⟩ := HF.out.cells
  obtain ⟨q0, q1, q2, q3, q4, q5, q6, q7, q8, q9, q10, q11, q12, q13, q14, _⟩ := HG.out.cells
  unfold OutV.agg
  unfold CliV.agg OpV.agg at *
  clear h1 h2 hA hC hB hD hF hG hb0 hb1 hl ho
  go_enter Tryd.func10, Tryd.ntmps10
  go_wp2_with (first | (go_at_call 11; (refine (H1.out _ HB.out).mono ?_); rintro e w1 ⟨rfl, hb1⟩; have HF1 := hide (HF.out.step hb1); have HG1 := hide (HG.out.step hb1); have HB1 := hide (HB.out.trans (hb1.mono HB.out.size)); clear p0 p1 p2 p3 p4 p5 p6 p7 p8 p9 p10 p11 p12 p13 p14 q0 q1 q2 q3 q4 q5 q6 q7 q8 q9 q10 q11 q12 q13 q14 hb1; obtain ⟨p0, p1, p2, p3, p4, p5, p6, p7, p8, p9, p10, p11, p12, p13, p14, _⟩ := HF1.out.cells; obtain ⟨q0, q1, q2, q3, q4, q5, q6, q7, q8, q9, q10, q11, q12, q13, q14, _⟩ := HG1.out.cells) | (go_at_call 30; (refine (H2.out _).mono ?_); rintro e w2 ⟨rfl, hb2⟩; have HF2 := hide (HF1.out.step hb2); have HG2 := hide (HG1.out.step hb2); have HB2 := hide (HB1.out.trans (hb2.mono HB1.out.size)); clear p0 p1 p2 p3 p4 p5 p6 p7 p8 p9 p10 p11 p12 p13 p14 q0 q1 q2 q3 q4 q5 q6 q7 q8 q9 q10 q11 q12 q13 q14 hb2; obtain ⟨p0, p1, p2, p3, p4, p5, p6, p7, p8, p9, p10, p11, p12, p13, p14, _⟩ := HF2.out.cells; obtain ⟨q0, q1, q2, q3, q4, q5, q6, q7, q8, q9, q10, q11, q12, q13, q14, _⟩ := HG2.out.cells) | fail)
  go_ret
  exact ⟨rfl, HB2.out⟩
set_option maxRecDepth 100000 in
set_option maxHeartbeats 1000000 in
theorem markClientOut_any (x : OutV) (la oa : Option Addr) (lc oc : Nat) (w : World) (hl : x.cl.log.length ≤ 1048576) (ho : x.cl.out.length ≤ 1048576) (hM : MarkC w x.cl la oa) :
    Calls Tryd.prog 15 #[x.agg la lc oa oc, .int .i64 1] w fun e w' => e = .returned (.int .i64 ((1 + 7 * x.cl.log.length + 7 * x.cl.out.length : Nat) : Int)) ∧ OpsAt w' la (marks 1 x.cl.log.length) ∧ OpsAt w' oa (marks (1 + 7 * x.cl.log.length) x.cl.out.length) ∧ Marked la oa w w' := by
  have hF := Fif.new w x la lc oa oc
  have hb0 : Below w.heap.size w (w.alloc (.cells #[.int .i64 x.cl.repl, .int .i64 x.cl.clock, .slice la x.cl.log.length lc, .int .i64 x.cl.acked, .slice oa x.cl.out.length oc, .int .i64 x.cl.got, .int .i64 x.op.time, .int .i64 x.op.repl, .int .i64 x.op.kind, .int .i64 x.op.node, .int .i64 x.op.parent, .string x.op.name, .string x.op.value, .int .i64 x.many, .int .i64 x.code] 33)) := (Below.refl _ _).alloc (Nat.le_refl _) _
  have h1 := markClient_any x.cl la oa lc oc 1 _ hl ho (by omega) (by omega) (hM.below hb0)
  rw [show ((1 : Nat) : Int) = 1 from rfl] at h1
  have HB := hide hb0
  have H1 := hide h1
  obtain ⟨p0, p1, p2, p3, p4, p5, p6, p7, p8, p9, p10, p11, p12, p13, p14, _⟩ := hF.cells
  unfold OutV.agg
  unfold CliV.agg at *
  clear h1 hF hb0 hM
  go_enter Tryd.func15, Tryd.ntmps15
  go_wp2_with (first | (go_at_call 13; (refine H1.out.mono ?_); rintro e w1 ⟨rfl, hx, hy, hm⟩; have HX := hide (And.intro hx (And.intro hy hm)); clear hx hy hm p0 p1 p2 p3 p4 p5 p6 p7 p8 p9 p10 p11 p12 p13 p14) | fail)
  go_ret
  obtain ⟨hx, hy, hm⟩ := HX.out
  have hb := HB.out
  exact ⟨rfl, hx, hy, hm.os.trans hb.os, hm.tape.trans hb.tape, hm.output.trans hb.output, Nat.le_trans hb.size hm.size, fun k hk h1 h2 => (hm.block k (by have := hb.size; omega) h1 h2).trans (hb.block k hk)⟩
set_option maxRecDepth 100000 in
set_option maxHeartbeats 1000000 in
theorem heldClientOut_any (x : OutV) (la oa : Option Addr) (lc oc : Nat) (w : World) (hl : x.cl.log.length ≤ 1048576) (ho : x.cl.out.length ≤ 1048576) (hA : OpsAt w la (marks 1 x.cl.log.length)) (hC : OpsAt w oa (marks (1 + 7 * x.cl.log.length) x.cl.out.length)) :
    Calls Tryd.prog 16 #[x.agg la lc oa oc, .int .i64 1] w fun e w' => e = .returned (.int .i64 ((1 + 7 * x.cl.log.length + 7 * x.cl.out.length : Nat) : Int)) ∧ Below w.heap.size w w' := by
  have hF := Fif.new w x la lc oa oc
  have hb0 : Below w.heap.size w (w.alloc (.cells #[.int .i64 x.cl.repl, .int .i64 x.cl.clock, .slice la x.cl.log.length lc, .int .i64 x.cl.acked, .slice oa x.cl.out.length oc, .int .i64 x.cl.got, .int .i64 x.op.time, .int .i64 x.op.repl, .int .i64 x.op.kind, .int .i64 x.op.node, .int .i64 x.op.parent, .string x.op.name, .string x.op.value, .int .i64 x.many, .int .i64 x.code] 33)) := (Below.refl _ _).alloc (Nat.le_refl _) _
  have h1 := heldClient_any x.cl la oa lc oc _ hl ho (hA.stays hb0) (hC.stays hb0)
  obtain ⟨m, hm⟩ : ∃ m : Nat, m = 1 + 7 * x.cl.log.length + 7 * x.cl.out.length := ⟨_, rfl⟩
  rw [← hm] at h1 ⊢
  have hneg : ¬ ((m : Int) < 0) := by omega
  have HB := hide hb0
  have H1 := hide h1
  obtain ⟨p0, p1, p2, p3, p4, p5, p6, p7, p8, p9, p10, p11, p12, p13, p14, _⟩ := hF.cells
  unfold OutV.agg
  unfold CliV.agg at *
  clear h1 hF hb0 hA hC hm
  go_enter Tryd.func16, Tryd.ntmps16
  go_wp2_with (first | (go_at_call 32; (refine H1.out.mono ?_); rintro e w1 ⟨rfl, hb1⟩; have HB1 := hide (HB.out.trans (hb1.mono HB.out.size))) | fail)
  all_goals (try (exfalso; omega))
  all_goals (
    go_ret
    exact ⟨rfl, HB1.out⟩)
end Go.Proofs.YtkfjommoogmehaaDoor.OpR
namespace Go.Proofs.YtkfjommoogmehaaDoor.OpR
open Go.ChangeShapes Go.WideShapes Go.ChangeAt Go.RowKit
set_option linter.unusedVariables false

theorem CliBox.marked {w W W' : World} {T : TypeId} {c : CliV} {la : Option Addr} {lc : Nat} {oa : Option Addr} {oc : Nat} {xa ya : Option Addr} (h : CliBox w W w.heap.size T c la lc oa oc) (hm : Marked xa ya W W') (h1 : ∀ a, xa = some a → w.heap.size + 1 ≤ a.block) (h2 : ∀ a, ya = some a → w.heap.size + 1 ≤ a.block) : CliBox w W' w.heap.size T c la lc oa oc :=
  ⟨(hm.block _ (Array.getElem?_eq_some_iff.1 h.1).1 (fun a e => by have := h1 a e; omega) (fun a e => by have := h2 a e; omega)).trans h.1, hm.below h.2 h.2.size (fun a e => by have := h1 a e; omega) (fun a e => by have := h2 a e; omega)⟩
theorem MarkOk.block_ {w w' : World} {ao : Option Addr} {n : Nat} (h : MarkOk w ao n) (hb : ∀ a, ao = some a → w'.heap[a.block]? = w.heap[a.block]?) : MarkOk w' ao n := by
  rcases h with ⟨g, N, rfl, hN, cs, e, hn⟩ | h
  · exact .inl ⟨g, N, rfl, hN, cs, (hb _ rfl).trans e, hn⟩
  · exact .inr h
/-- What the specification told, in a variable: all below N. -/
structure WS (N : Nat) (W : World) (V : Nat) (x : OutV) (la : Option Addr) (lc : Nat) (oa : Option Addr) (oc : Nat) : Prop where
  fif : Fif W V x la lc oa oc
  log : OLies N W la x.cl.log
  out : OLies N W oa x.cl.out
  low : V < N
theorem WS.new {W : World} {x : OutV} {la : Option Addr} {lc : Nat} {oa : Option Addr} {oc : Nat} (h1 : OpsAt W la x.cl.log) (h2 : OpsAt W oa x.cl.out) : WS (W.heap.size + 1) (W.alloc (.cells #[.int .i64 x.cl.repl, .int .i64 x.cl.clock, .slice la x.cl.log.length lc, .int .i64 x.cl.acked, .slice oa x.cl.out.length oc, .int .i64 x.cl.got, .int .i64 x.op.time, .int .i64 x.op.repl, .int .i64 x.op.kind, .int .i64 x.op.node, .int .i64 x.op.parent, .string x.op.name, .string x.op.value, .int .i64 x.many, .int .i64 x.code] 33)) W.heap.size x la lc oa oc :=
  ⟨Fif.new W x la lc oa oc, ⟨h1.stays ((Below.refl _ _).alloc (Nat.le_refl _) _), fun hne a e => Nat.lt_succ_of_lt ((OLies.of h1).low hne a e)⟩, ⟨h2.stays ((Below.refl _ _).alloc (Nat.le_refl _) _), fun hne a e => Nat.lt_succ_of_lt ((OLies.of h2).low hne a e)⟩, Nat.lt_succ_self _⟩
theorem WS.step {N : Nat} {W W' : World} {V : Nat} {x : OutV} {la : Option Addr} {lc : Nat} {oa : Option Addr} {oc : Nat} (h : WS N W V x la lc oa oc) (hb : Below W.heap.size W W') : WS N W' V x la lc oa oc := ⟨h.fif.step hb, h.log.stays hb, h.out.stays hb, h.low⟩
theorem OLies.marked {N : Nat} {W W' : World} {ao : Option Addr} {l : List OpV} {xa ya : Option Addr} (h : OLies N W ao l) (hm : Marked xa ya W W') (h1 : ∀ a, xa = some a → N ≤ a.block) (h2 : ∀ a, ya = some a → N ≤ a.block) : OLies N W' ao l :=
  ⟨fun j hj => by
    obtain ⟨b, off, e, hlt, ho⟩ := h.at_ j hj
    have hb := h.low (fun e0 => by rw [e0] at hj; exact absurd hj (by simp)) _ e
    exact ⟨b, off, e, Nat.lt_of_lt_of_le hlt hm.size, ho.block (hm.block b hlt (fun a ea => by have := h1 a ea; simp at hb; omega) (fun a ea => by have := h2 a ea; simp at hb; omega))⟩, h.low⟩
theorem WS.marked {N : Nat} {W W' : World} {V : Nat} {x : OutV} {la : Option Addr} {lc : Nat} {oa : Option Addr} {oc : Nat} {xa ya : Option Addr} (h : WS N W V x la lc oa oc) (hm : Marked xa ya W W') (h1 : ∀ a, xa = some a → N ≤ a.block) (h2 : ∀ a, ya = some a → N ≤ a.block) : WS N W' V x la lc oa oc :=
  ⟨h.fif.keep (hm.block _ h.fif.lt (fun a e => by have := h1 a e; have := h.low; omega) (fun a e => by have := h2 a e; have := h.low; omega)), h.log.marked hm h1 h2, h.out.marked hm h1 h2, h.low⟩
/-- What impl told, in a variable: none of it below N. -/
structure GS (N : Nat) (W : World) (V : Nat) (x : OutV) (gl go : Option Addr) : Prop where
  fif : Fif W V x gl x.cl.log.length go x.cl.out.length
  log : OpsAt W gl x.cl.log
  out : OpsAt W go x.cl.out
  mrk : MarkC W x.cl gl go
  ne1 : ∀ a, gl = some a → N ≤ a.block ∧ a.block < V
  ne2 : ∀ a, go = some a → N ≤ a.block ∧ a.block < V
  low : N ≤ V
theorem GS.new {N : Nat} {W : World} {x : OutV} {gl go : Option Addr} (h1 : OpsAt W gl x.cl.log) (h2 : OpsAt W go x.cl.out) (h3 : MarkC W x.cl gl go) (h4 : ∀ a, gl = some a → N ≤ a.block) (h5 : ∀ a, go = some a → N ≤ a.block) (h6 : N ≤ W.heap.size) : GS N (W.alloc (.cells #[.int .i64 x.cl.repl, .int .i64 x.cl.clock, .slice gl x.cl.log.length x.cl.log.length, .int .i64 x.cl.acked, .slice go x.cl.out.length x.cl.out.length, .int .i64 x.cl.got, .int .i64 x.op.time, .int .i64 x.op.repl, .int .i64 x.op.kind, .int .i64 x.op.node, .int .i64 x.op.parent, .string x.op.name, .string x.op.value, .int .i64 x.many, .int .i64 x.code] 33)) W.heap.size x gl go :=
  have hb := (Below.refl W.heap.size W).alloc (Nat.le_refl _) (.cells #[.int .i64 x.cl.repl, .int .i64 x.cl.clock, .slice gl x.cl.log.length x.cl.log.length, .int .i64 x.cl.acked, .slice go x.cl.out.length x.cl.out.length, .int .i64 x.cl.got, .int .i64 x.op.time, .int .i64 x.op.repl, .int .i64 x.op.kind, .int .i64 x.op.node, .int .i64 x.op.parent, .string x.op.name, .string x.op.value, .int .i64 x.many, .int .i64 x.code] 33)
  ⟨Fif.new W x gl _ go _, h1.stays hb, h2.stays hb, h3.below hb, fun a e => ⟨h4 a e, h3.log.lt a e⟩, fun a e => ⟨h5 a e, h3.out.lt a e⟩, h6⟩
theorem GS.step {N : Nat} {W W' : World} {V : Nat} {x : OutV} {gl go : Option Addr} (h : GS N W V x gl go) (hb : Below W.heap.size W W') : GS N W' V x gl go := ⟨h.fif.step hb, h.log.stays hb, h.out.stays hb, h.mrk.below hb, h.ne1, h.ne2, h.low⟩
theorem GS.marked {N : Nat} {W W' : World} {V : Nat} {x : OutV} {gl go : Option Addr} {xa ya : Option Addr} (h : GS N W V x gl go) (hm : Marked xa ya W W') (h1 : ∀ a, xa = some a → a.block < N) (h2 : ∀ a, ya = some a → a.block < N) : GS N W' V x gl go :=
  have a1 : ∀ a, gl = some a → W'.heap[a.block]? = W.heap[a.block]? := fun a e => hm.block _ (h.mrk.log.lt a e) (fun b eb => by have := h1 b eb; have := (h.ne1 a e).1; omega) (fun b eb => by have := h2 b eb; have := (h.ne1 a e).1; omega)
  have a2 : ∀ a, go = some a → W'.heap[a.block]? = W.heap[a.block]? := fun a e => hm.block _ (h.mrk.out.lt a e) (fun b eb => by have := h1 b eb; have := (h.ne2 a e).1; omega) (fun b eb => by have := h2 b eb; have := (h.ne2 a e).1; omega)
  ⟨h.fif.keep (hm.block _ h.fif.lt (fun b eb => by have := h1 b eb; have := h.low; omega) (fun b eb => by have := h2 b eb; have := h.low; omega)), h.log.block_ hm.size a1, h.out.block_ hm.size a2, ⟨h.mrk.log.block_ a1, h.mrk.out.block_ a2, h.mrk.apart⟩, h.ne1, h.ne2, h.low⟩
/-- The same with its rows marked. -/
structure GM (W : World) (V : Nat) (x : OutV) (gl go : Option Addr) : Prop where
  fif : Fif W V x gl x.cl.log.length go x.cl.out.length
  log : OpsAt W gl (marks 1 x.cl.log.length)
  out : OpsAt W go (marks (1 + 7 * x.cl.log.length) x.cl.out.length)
theorem GS.own {N : Nat} {W W' : World} {V : Nat} {x : OutV} {gl go : Option Addr} (h : GS N W V x gl go) (hm : Marked gl go W W') (h1 : OpsAt W' gl (marks 1 x.cl.log.length)) (h2 : OpsAt W' go (marks (1 + 7 * x.cl.log.length) x.cl.out.length)) : GM W' V x gl go :=
  ⟨h.fif.keep (hm.block _ h.fif.lt (fun a e => by have := (h.ne1 a e).2; omega) (fun a e => by have := (h.ne2 a e).2; omega)), h1, h2⟩
theorem GM.step {W W' : World} {V : Nat} {x : OutV} {gl go : Option Addr} (h : GM W V x gl go) (hb : Below W.heap.size W W') : GM W' V x gl go := ⟨h.fif.step hb, h.log.stays hb, h.out.stays hb⟩
theorem mark_ins {W : World} {c : CliV} {g3 g4 : Nat} (h3 : OpsIn W g3 31 c.log) (h4 : OpsIn W g4 31 c.out) (hne : g3 < g4) : MarkC W c (some ⟨g3, 0, none⟩) (some ⟨g4, 0, none⟩) :=
  ⟨.inl ⟨g3, _, rfl, Nat.le_refl _, opsArr c.log, h3, opsArr_size _⟩, .inl ⟨g4, _, rfl, Nat.le_refl _, opsArr c.out, h4, opsArr_size _⟩, fun x y ex ey => by cases ex; cases ey; show g3 ≠ g4; omega⟩
end Go.Proofs.YtkfjommoogmehaaDoor.OpR
namespace Go.Proofs.YtkfjommoogmehaaDoor.OpR
open Go.ChangeShapes Go.WideShapes Go.ChangeAt Go.RowKit
set_option linter.unusedVariables false

theorem add_len (l m : List OpV) : (addRes l m).1.length ≤ 150 := by
  unfold addRes
  split
  · simp
  · split
    · simp
    · show _ ≤ 150; rename_i h; exact Nat.le_of_not_lt h
theorem takeRes_len (fr : Int) (l : List OpV) {c : CliV} (hz : CSz 1048576 c) : (takeRes c fr l).cl.log.length ≤ 1048576 ∧ (takeRes c fr l).cl.out.length ≤ 1048576 := by
  have h0 : ∀ code, (OutV.ill code).cl.log.length ≤ 1048576 ∧ (OutV.ill code).cl.out.length ≤ 1048576 := fun code => ⟨Nat.zero_le _, Nat.zero_le _⟩
  unfold takeRes
  repeat' split
  all_goals first | exact h0 _ | (refine ⟨?_, hz.out⟩; have := add_len c.log (newOps c.got fr l); show (addRes c.log (newOps c.got fr l)).1.length ≤ _; omega)
/-- What spec.Take answers. -/
theorem sTake_any (c : CliV) (la oa : Option Addr) (lc oc : Nat) (fr : Int) (l : List OpV) (b off mc : Nat) (w : World) (hz : CSz maxLen c) (hf : Num64 fr) (hA : OpsAt w la c.log) (hC : OpsAt w oa c.out) (hll : l.length ≤ 1048576) (hmc : l.length ≤ mc) (hM : OpsAt w (some ⟨b, off, none⟩) l) (hSz : Sized l) :
    Calls Tryd.prog 6 #[c.agg la lc oa oc, .int .i64 fr, .slice (some ⟨b, off, none⟩) l.length mc] w fun e w' => STold w w' e (takeRes c fr l) := by
  by_cases hbig : 400 < l.length
  · rw [show takeRes c fr l = OutV.ill 2 by simp [takeRes, hbig]]
    exact sTake_size c la oa lc oc fr l b off mc w hz hf hA hC hll hmc hM hSz hbig
  have hl : l.length ≤ 400 := by omega
  cases hcr : cliRight c
  · rw [show takeRes c fr l = OutV.ill 1 by simp [takeRes, hbig, hcr]]
    exact sTake_form1 c la oa lc oc fr l b off mc w hz hf hA hC hll hmc hM hSz hl hcr
  cases hor : opsRight l
  · rw [show takeRes c fr l = OutV.ill 1 by simp [takeRes, hbig, hcr, hor]]
    exact sTake_form2 c la oa lc oc fr l b off mc w hz hf hA hC hll hmc hM hSz hl hcr hor
  by_cases h0 : fr < 0
  · rw [show takeRes c fr l = OutV.ill 1 by simp [takeRes, hbig, hcr, hor]; intro hh; omega]
    exact sTake_form3 c la oa lc oc fr l b off mc w hz hf hA hC hll hmc hM hSz hl hcr hor h0
  have h0' : 0 ≤ fr := by omega
  have eT : takeRes c fr l = if c.got < fr ∨ 1000000 < fr + l.length then OutV.ill 8 else if knownB c.log c.repl (newOps c.got fr l) = false then OutV.ill 6 else if (addRes c.log (newOps c.got fr l)).2.2 ≠ 0 then OutV.ill (addRes c.log (newOps c.got fr l)).2.2 else ⟨⟨c.repl, maxT c.clock (newOps c.got fr l), (addRes c.log (newOps c.got fr l)).1, c.acked, c.out, max c.got (fr + l.length)⟩, OpV.zero, (addRes c.log (newOps c.got fr l)).2.1, 0⟩ := by
    unfold takeRes
    rw [if_neg hbig, if_neg (by rw [hcr, hor]; simp; omega)]
  rw [eT]
  by_cases h1 : c.got < fr
  · rw [if_pos (.inl h1)]
    exact sTake_place1 c la oa lc oc fr l b off mc w hz hf hA hC hll hmc hM hSz hl hcr hor h0' h1
  by_cases h2 : 1000000 < fr + (l.length : Int)
  · rw [if_pos (.inr h2)]
    exact sTake_place2 c la oa lc oc fr l b off mc w hz hf hA hC hll hmc hM hSz hl hcr hor h0' (by omega) h2
  rw [if_neg (by omega)]
  obtain ⟨k, hk⟩ : ∃ k : Nat, min (l.length : Int) (c.got - fr) = (k : Int) := ⟨(min (l.length : Int) (c.got - fr)).toNat, by omega⟩
  have en : newOps c.got fr l = l.drop k := by unfold newOps; rw [hk]; rfl
  rw [en]
  exact sTake_rest c la oa lc oc fr l b off mc w hz hf hA hC hll hmc hM hSz hl hcr hor h0' (by omega) (by omega) k hk _ rfl _ rfl (add_len _ _) _ (fun h => if_pos h) (fun h h2 => by rw [if_neg (by rw [h]; decide), if_pos h2]) (fun h h2 => by rw [if_neg (by rw [h]; decide), if_neg (by rw [h2]; decide)])
theorem Marked.of_grown {W W' : World} {g : Nat} (h : W.grownBy W' (some g)) : Marked (some ⟨g, 0, none⟩) none W W' :=
  ⟨h.os, h.tape, h.output, h.size, fun k hk h1 _ => h.block k hk (fun e => h1 _ rfl (by cases e; rfl))⟩
theorem markRow_any (l : List OpV) (g cap k : Nat) (W : World) (hl : l.length ≤ 1048576) (hk : 0 < k) (hk2 : k ≤ 20000000) (h : OpsIn W g 31 l) :
    Calls Tryd.prog 14 #[.slice (some ⟨g, 0, none⟩) l.length cap, .int .i64 (k : Int)] W fun e w' => e = .returned (.int .i64 ((k + 7 * l.length : Nat) : Int)) ∧ Marked (some ⟨g, 0, none⟩) none W w' := by
  refine (mark_any (some ⟨g, 0, none⟩) l.length cap k W hl hk (by omega) (.inl ⟨g, _, rfl, Nat.le_refl _, opsArr l, h, opsArr_size _⟩)).mono ?_
  rintro e w' ⟨h1, _, _, h2⟩
  exact ⟨h1, Marked.of_grown h2⟩
set_option maxRecDepth 100000 in
set_option maxHeartbeats 4000000 in
theorem law_take (w : World) (la : Option Addr) (lc : Nat) (oa : Option Addr) (oc : Nat) (c : CliV) (fr : Int) (ma : Option Addr) (mc : Nat) (l : List OpV) {f : Nat → Addr} (hS : Sents w f) (hC : CameCli w la oa c) (hf : Num64 fr) (hM : CameOps w ma l) :
    Calls Tryd.prog 3 #[c.agg la lc oa oc, .int .i64 fr, .slice ma l.length mc] w fun e w' => e = .returned (.bool true) ∧ Below w.heap.size w w' := by
  obtain ⟨hl0, hm0, hsz0, _⟩ := hM
  have hsz := fun W (hW : Below w.heap.size w W) => szClient_any c la oa lc oc W hC.sz (hC.log.stays hW) (hC.out.stays hW)
  have hsl := fun L h0 h1 W (hW : Below w.heap.size w W) => szOpS_left L l ma mc W h0 h1 hl0 (hm0.stays hW) hsz0
  have hto := fun W (hz : CSz 1048576 c) (hW : Below w.heap.size w W) => toClient_any c la oa lc oc W hz (hC.log.stays hW) (hC.out.stays hW)
  have htl := fun W (hl : l.length ≤ 1048576) (hW : Below w.heap.size w W) => toOpS_any l ma mc W hl (hm0.stays hW)
  have hsp := fun la oa lc oc b off zc W (hl : l.length ≤ 1048576 ∧ ∀ o ∈ l, o.name.size ≤ 1048576 ∧ o.value.size ≤ 1048576) (hzc : l.length ≤ zc) h1 h2 h3 => sTake_any c la oa lc oc fr l b off zc W hC.sz hf h1 h2 hl.1 hzc h3 hsz0
  have him := fun la lc ob oo oc b off zc W (hz : CSz 1048576 c) (hl : l.length ≤ 1048576 ∧ ∀ o ∈ l, o.name.size ≤ 1048576 ∧ o.value.size ≤ 1048576) (hlc : c.log.length ≤ lc) (hoc : c.out.length ≤ oc) (hzc : l.length ≤ zc) (hW : Below w.heap.size w W) h1 h2 h3 => iTake_any c la lc ob oo oc fr l b off zc W (hS.step hW) hz hf hl.1 hl.2 hlc hoc hzc h1 h2 h3
  have hlen : CSz 1048576 c → (takeRes c fr l).cl.log.length ≤ 1048576 ∧ (takeRes c fr l).cl.out.length ≤ 1048576 := fun hz => takeRes_len fr l hz
  obtain ⟨x, hx⟩ : ∃ x, x = takeRes c fr l := ⟨_, rfl⟩
  rw [← hx] at hlen
  simp only [← hx] at hsp him
  have heq := fun la oa lb ob lc oc ld od W h1 h2 h3 h4 => eqClient_same c la oa lb ob lc oc ld od W hC.sz.log hC.sz.out h1 h2 h3 h4
  have hel := fun ao1 ao2 c1 c2 W h1 h2 => eqOpS_same l ao1 ao2 c1 c2 W hl0 h1 h2
  have heo := fun la oa lb ob lc oc ld od W (hz : CSz 1048576 c) (_ : l.length ≤ 1048576) h1 h2 h3 h4 => eqClientOut_same x la oa lb ob lc oc ld od W (Nat.le_trans (hlen hz).1 (by unfold maxLen; omega)) (Nat.le_trans (hlen hz).2 (by unfold maxLen; omega)) h1 h2 h3 h4
  have hmc := fun la oa lc oc W (hz : CSz 1048576 c) h1 => markClient_any c la oa lc oc 1 W hz.log hz.out (by omega) (by omega) h1
  have hmo := fun la oa lc oc W (hz : CSz 1048576 c) (_ : l.length ≤ 1048576) h1 => markClientOut_any x la oa lc oc W (hlen hz).1 (hlen hz).2 h1
  have hho := fun la oa lc oc W (hz : CSz 1048576 c) (_ : l.length ≤ 1048576) h1 h2 => heldClientOut_any x la oa lc oc W (hlen hz).1 (hlen hz).2 h1 h2
  rw [show ((1 : Nat) : Int) = 1 from rfl] at hmc
  obtain ⟨KC, hKC⟩ : ∃ K : Nat, K = 1 + 7 * c.log.length + 7 * c.out.length := ⟨_, rfl⟩
  obtain ⟨KX, hKX⟩ : ∃ K : Nat, K = 1 + 7 * x.cl.log.length + 7 * x.cl.out.length := ⟨_, rfl⟩
  rw [← hKC] at hmc
  rw [← hKX] at hmo hho
  have hml := fun g cap W (hz : CSz 1048576 c) (hl : l.length ≤ 1048576) h => markRow_any l g cap KC W hl (by omega) (by have := hz.log; have := hz.out; omega) h
  obtain ⟨KL, hKL⟩ : ∃ K : Nat, K = KC + 7 * l.length := ⟨_, rfl⟩
  rw [← hKL] at hml
  have hneg1 : ¬ ((KC : Int) < 0) := by omega
  have hneg2 : ¬ ((KX : Int) < 0) := by omega
  have hneg3 : ¬ ((KL : Int) < 0) := by omega
  have HB0 := hide (CliBox.new w 24 c la lc oa oc)
  unfold CliV.agg at *
  unfold OutV.agg at heo hmo hho
  have HSZ := hide hsz
  have HSL := hide hsl
  have HTO := hide hto
  have HTL := hide htl
  have HSP := hide hsp
  have HIM := hide him
  have HEQ := hide heq
  have HEL := hide hel
  have HEO := hide heo
  have HMC := hide hmc
  have HML := hide hml
  have HMO := hide hmo
  have HHO := hide hho
  clear hsz hsl hto htl hsp him heq hel heo hmc hml hmo hho hx hlen hKC hKX hKL hS hC hl0 hm0 hsz0
  obtain ⟨p0, p1, p2, p3, p4, p5⟩ := HB0.out.cells
  have M1 : Hid True := ⟨trivial⟩
  have M2 : Hid True := ⟨trivial⟩
  have M3 : Hid True := ⟨trivial⟩
  have M4 : Hid True := ⟨trivial⟩
  have T1 : Hid True := ⟨trivial⟩
  have T2 : Hid True := ⟨trivial⟩
  go_enter Tryd.func3, Tryd.ntmps3
  go_wp2_with (first | (go_at_call 4; (refine (HSZ.out _ HB0.out.2).mono ?_); rintro e w1 ⟨m, rfl, hm, hq, hb1⟩; have HQ := hide hq; have HB1 := hide (HB0.out.step hb1); clear p0 p1 p2 p3 p4 p5 hb1 hq; obtain ⟨p0, p1, p2, p3, p4, p5⟩ := HB1.out.cells) | (go_at_call 5; (refine (HSL.out m (by omega) (by omega) _ HB1.out.2).mono ?_); rintro e w1q ⟨mq, rfl, hmq, hqq, hbq⟩; have HQL := hide hqq; have HBq := hide (HB1.out.step hbq); clear p0 p1 p2 p3 p4 p5 hbq hqq; obtain ⟨p0, p1, p2, p3, p4, p5⟩ := HBq.out.cells) | (go_at_call 7; clear M1; have HQ1 := hide (HQ.out (by omega)); have HQ2 := hide (HQL.out (by omega)); (refine (HTO.out _ HQ1.out HBq.out.2).mono ?_); rintro e w2 ⟨g1, g2, rfl, hx, hy, _, _, hb2⟩; have HX2 := hide hx.opsAt; have HY2 := hide hy.opsAt; have HB2 := hide (HBq.out.step hb2); clear p0 p1 p2 p3 p4 p5 hb2 hx hy HQ HQL; obtain ⟨p0, p1, p2, p3, p4, p5⟩ := HB2.out.cells) | (go_at_call 8; clear T1; (refine (HTL.out _ HQ2.out.1 HB2.out.2).mono ?_); rintro e w2l ⟨rfl, hz, hbl⟩; have HZ2 := hide hz.opsAt; have HX2l := hide (HX2.out.stays hbl); have HY2l := hide (HY2.out.stays hbl); have HB2l := hide (HB2.out.step hbl); clear p0 p1 p2 p3 p4 p5 hbl hz HX2 HY2; obtain ⟨p0, p1, p2, p3, p4, p5⟩ := HB2l.out.cells) | (go_at_call 6; (refine (HSP.out _ _ _ _ _ _ _ _ HQ2.out (Nat.le_refl _) HX2l.out HY2l.out HZ2.out).mono ?_); intro e w3 h3; obtain ⟨sl, slc, so, soc, he, hL, hO, hb3⟩ := h3; unfold OutV.agg at he; subst he; have HW3 := hide (WS.new (lc := slc) (oc := soc) hL hO); have hba := (Below.refl w3.heap.size w3).alloc (Nat.le_refl _) (.cells #[.int .i64 x.cl.repl, .int .i64 x.cl.clock, .slice sl x.cl.log.length slc, .int .i64 x.cl.acked, .slice so x.cl.out.length soc, .int .i64 x.cl.got, .int .i64 x.op.time, .int .i64 x.op.repl, .int .i64 x.op.kind, .int .i64 x.op.node, .int .i64 x.op.parent, .string x.op.name, .string x.op.value, .int .i64 x.many, .int .i64 x.code] 33); have HB3 := hide ((HB2l.out.step hb3).step hba); clear p0 p1 p2 p3 p4 p5 hb3 hba HX2l HY2l HZ2 hL hO; obtain ⟨p0, p1, p2, p3, p4, p5⟩ := HB3.out.cells) | (go_at_call 7; clear M2; (refine (HTO.out _ HQ1.out HB3.out.2).mono ?_); rintro e w4 ⟨g3, g4, rfl, hx, hy, hl3, hl4, hb4⟩; have HX4 := hide hx; have HY4 := hide hy; have HB4 := hide (HB3.out.step hb4); have HW4 := hide (HW3.out.step hb4); have HL4 := hide (And.intro hl3 hl4); clear p0 p1 p2 p3 p4 p5 hb4 hx hy hl3 hl4; obtain ⟨p0, p1, p2, p3, p4, p5⟩ := HB4.out.cells) | (go_at_call 8; clear T2; have hx0 : CliBox w4 (w4.alloc (.cells #[.int .i64 c.repl, .int .i64 c.clock, .slice (some ⟨g3, 0, none⟩) c.log.length c.log.length, .int .i64 c.acked, .slice (some ⟨g4, 0, none⟩) c.out.length c.out.length, .int .i64 c.got] 29)) w4.heap.size 29 c (some ⟨g3, 0, none⟩) c.log.length (some ⟨g4, 0, none⟩) c.out.length := CliBox.new w4 _ c _ _ _ _; (refine (HTL.out _ HQ2.out.1 (HB4.out.step hx0.2).2).mono ?_); rintro e w5 ⟨rfl, hz, hb5⟩; have hz5 : OpsIn w5 (w4.heap.size + 1) 31 l := (by simpa using hz); have HZ5 := hide hz5; have HXV5 := hide (hx0.step hb5); have HX5 := hide ((HX4.out.stays hx0.2).stays hb5); have HY5 := hide ((HY4.out.stays hx0.2).stays hb5); have HB5 := hide ((HB4.out.step hx0.2).step hb5); have HW5 := hide ((HW4.out.step hx0.2).step hb5); have HS4 := hide (And.intro HX4.out.lt HY4.out.lt); clear p0 p1 p2 p3 p4 p5 hx0 hz hz5 hb5 HX4 HY4; obtain ⟨p0, p1, p2, p3, p4, p5⟩ := HB5.out.cells; obtain ⟨q0, q1, q2, q3, q4, q5⟩ := HXV5.out.cells) | (go_at_call 9; clear M3; (refine (HIM.out _ _ _ _ _ _ _ _ _ HQ1.out HQ2.out (Nat.le_refl _) (Nat.le_refl _) (Nat.le_refl _) HB5.out.2 HX5.out.opsAt HY5.out.opsAt HZ5.out.opsAt).mono ?_); intro e w6 h6; obtain ⟨gl, go, he, hL, hO, hM, hbl, hbo, hb6⟩ := h6; unfold OutV.agg at he; subst he; have HG6 := hide (GS.new hL hO hM hbl hbo hb6.size); have hbg : Below w6.heap.size w6 (w6.alloc (.cells #[.int .i64 x.cl.repl, .int .i64 x.cl.clock, .slice gl x.cl.log.length x.cl.log.length, .int .i64 x.cl.acked, .slice go x.cl.out.length x.cl.out.length, .int .i64 x.cl.got, .int .i64 x.op.time, .int .i64 x.op.repl, .int .i64 x.op.kind, .int .i64 x.op.node, .int .i64 x.op.parent, .string x.op.name, .string x.op.value, .int .i64 x.many, .int .i64 x.code] 33)) := (Below.refl w6.heap.size w6).alloc (Nat.le_refl _) _; have HXV := hide ((HXV5.out.step hb6).step hbg); have HX6 := hide ((HX5.out.stays hb6).stays hbg); have HY6 := hide ((HY5.out.stays hb6).stays hbg); have HZ6 := hide ((HZ5.out.stays hb6).stays hbg); have HB6 := hide ((HB5.out.step hb6).step hbg); have HW6 := hide ((HW5.out.step hb6).step hbg); have HS5 := hide HZ5.out.lt; clear p0 p1 p2 p3 p4 p5 q0 q1 q2 q3 q4 q5 hb6 hbg hL hO hM hbl hbo HX5 HY5 HZ5; obtain ⟨p0, p1, p2, p3, p4, p5⟩ := HB6.out.cells; obtain ⟨q0, q1, q2, q3, q4, q5⟩ := HXV.out.cells; obtain ⟨r0, r1, r2, r3, r4, r5, r6, r7, r8, r9, r10, r11, r12, r13, r14, _⟩ := HG6.out.fif.cells; obtain ⟨s0, s1, s2, s3, s4, s5, s6, s7, s8, s9, s10, s11, s12, s13, s14, _⟩ := HW6.out.fif.cells) | (go_at_call 10; clear M4; (refine (HEO.out _ _ _ _ _ _ _ _ _ HQ1.out HQ2.out.1 HG6.out.log HG6.out.out HW6.out.log.at_ HW6.out.out.at_).mono ?_); rintro e w7 ⟨rfl, hb7⟩; have HG7 := hide (HG6.out.step hb7); have HW7 := hide (HW6.out.step hb7); have HB7 := hide (HB6.out.step hb7); have HXV7 := hide (HXV.out.step hb7); have HX7 := hide (HX6.out.stays hb7); have HY7 := hide (HY6.out.stays hb7); have HZ7 := hide (HZ6.out.stays hb7); clear p0 p1 p2 p3 p4 p5 q0 q1 q2 q3 q4 q5 r0 r1 r2 r3 r4 r5 r6 r7 r8 r9 r10 r11 r12 r13 r14 s0 s1 s2 s3 s4 s5 s6 s7 s8 s9 s10 s11 s12 s13 s14 hb7; obtain ⟨p0, p1, p2, p3, p4, p5⟩ := HB7.out.cells; obtain ⟨q0, q1, q2, q3, q4, q5⟩ := HXV7.out.cells; obtain ⟨r0, r1, r2, r3, r4, r5, r6, r7, r8, r9, r10, r11, r12, r13, r14, _⟩ := HG7.out.fif.cells; obtain ⟨s0, s1, s2, s3, s4, s5, s6, s7, s8, s9, s10, s11, s12, s13, s14, _⟩ := HW7.out.fif.cells) | fail)
  · go_ret
    exact ⟨rfl, HB1.out.2⟩
  · go_ret
    exact ⟨rfl, HBq.out.2⟩
  have hn3 : w3.heap.size + 1 ≤ g3 := by have := HL4.out.1; simpa using this
  have hn34 := HL4.out.2
  have hn0 : w.heap.size + 1 ≤ w3.heap.size + 1 := by have := (Array.getElem?_eq_some_iff.1 HB3.out.1).1; simp at this; omega
  have hz4 : g3 < w4.heap.size := HS4.out.1
  have hz5 : g4 < w4.heap.size := HS4.out.2
  have hz6 : w4.heap.size + 1 < w5.heap.size := HS5.out
  have HN := hide (And.intro hn3 (And.intro hn34 (And.intro hn0 (And.intro (Nat.lt_trans hz4 (Nat.lt_trans (Nat.lt_succ_self _) hz6)) (And.intro (Nat.lt_trans hz5 (Nat.lt_trans (Nat.lt_succ_self _) hz6)) hz6)))))
  have HN4 := hide (And.intro hz4 hz5)
  clear hn3 hn34 hn0 hz4 hz5 hz6
  go_region_with (first | (go_at_call 7; (refine (HTO.out _ HQ1.out HB7.out.2.drew).mono ?_); rintro e w8 ⟨g7, g8, rfl, hx, hy, _, _, hb8⟩; have HX8 := hide hx.opsAt; have HY8 := hide hy.opsAt; have hq8 : Below w7.heap.size w7 w8 := ((Below.refl _ w7).drew).trans (hb8.mono (Nat.le_refl _)); have HB8 := hide (HB7.out.step hq8); have HXV8 := hide (HXV7.out.step hq8); have HXX8 := hide (HX7.out.stays hq8); have HYY8 := hide (HY7.out.stays hq8); have HZZ8 := hide (HZ7.out.stays hq8); have HG8 := hide (HG7.out.step hq8); have HW8 := hide (HW7.out.step hq8); obtain ⟨q0, q1, q2, q3, q4, q5⟩ := HXV8.out.cells; clear hb8 hq8 hx hy) | (go_at_call 11; (refine (HEQ.out _ _ _ _ _ _ _ _ _ HXX8.out.opsAt HYY8.out.opsAt HX8.out HY8.out).mono ?_); rintro e w9 ⟨rfl, hb9⟩; have HB9 := hide (HB8.out.step hb9); have HXV9 := hide (HXV8.out.step hb9); have HX9 := hide (HXX8.out.stays hb9); have HY9 := hide (HYY8.out.stays hb9); have HZ9 := hide (HZZ8.out.stays hb9); have HG9 := hide (HG8.out.step hb9); have HW9 := hide (HW8.out.step hb9); clear hb9) | fail)
  all_goals as_aux_lemma =>
    clear p0 p1 p2 p3 p4 p5 q0 q1 q2 q3 q4 q5 r0 r1 r2 r3 r4 r5 r6 r7 r8 r9 r10 r11 r12 r13 r14 s0 s1 s2 s3 s4 s5 s6 s7 s8 s9 s10 s11 s12 s13 s14
    obtain ⟨p0, p1, p2, p3, p4, p5⟩ := HB9.out.cells
    obtain ⟨q0, q1, q2, q3, q4, q5⟩ := HXV9.out.cells
    obtain ⟨r0, r1, r2, r3, r4, r5, r6, r7, r8, r9, r10, r11, r12, r13, r14, _⟩ := HG9.out.fif.cells
    obtain ⟨s0, s1, s2, s3, s4, s5, s6, s7, s8, s9, s10, s11, s12, s13, s14, _⟩ := HW9.out.fif.cells
    have M5 : Hid True := ⟨trivial⟩
    have M6 : Hid True := ⟨trivial⟩
    have hz4 := HN4.out.1
    have hz5 := HN4.out.2
    go_wp2_with (first | (go_at_call 8; (refine (HTL.out _ HQ2.out.1 HB9.out.2).mono ?_); rintro e wc ⟨rfl, hz, hbc⟩; have HZC := hide hz.opsAt; have HBA := hide (HB9.out.step hbc); have HXVA := hide (HXV9.out.step hbc); have HXA := hide (HX9.out.stays hbc); have HYA := hide (HY9.out.stays hbc); have HZA := hide (HZ9.out.stays hbc); have HGA := hide (HG9.out.step hbc); have HWA := hide (HW9.out.step hbc); clear p0 p1 p2 p3 p4 p5 q0 q1 q2 q3 q4 q5 r0 r1 r2 r3 r4 r5 r6 r7 r8 r9 r10 r11 r12 r13 r14 s0 s1 s2 s3 s4 s5 s6 s7 s8 s9 s10 s11 s12 s13 s14 hz hbc; obtain ⟨p0, p1, p2, p3, p4, p5⟩ := HBA.out.cells; obtain ⟨q0, q1, q2, q3, q4, q5⟩ := HXVA.out.cells; obtain ⟨r0, r1, r2, r3, r4, r5, r6, r7, r8, r9, r10, r11, r12, r13, r14, _⟩ := HGA.out.fif.cells; obtain ⟨s0, s1, s2, s3, s4, s5, s6, s7, s8, s9, s10, s11, s12, s13, s14, _⟩ := HWA.out.fif.cells) | (go_at_call 12; (refine (HEL.out _ _ _ _ _ HZA.out.opsAt HZC.out).mono ?_); rintro e wd ⟨rfl, hbd⟩; have HBD := hide (HBA.out.step hbd); have HXVD := hide (HXVA.out.step hbd); have HXD := hide (HXA.out.stays hbd); have HYD := hide (HYA.out.stays hbd); have HZD := hide (HZA.out.stays hbd); have HGD := hide (HGA.out.step hbd); have HWD := hide (HWA.out.step hbd); clear p0 p1 p2 p3 p4 p5 q0 q1 q2 q3 q4 q5 r0 r1 r2 r3 r4 r5 r6 r7 r8 r9 r10 r11 r12 r13 r14 s0 s1 s2 s3 s4 s5 s6 s7 s8 s9 s10 s11 s12 s13 s14 hbd; obtain ⟨p0, p1, p2, p3, p4, p5⟩ := HBD.out.cells; obtain ⟨q0, q1, q2, q3, q4, q5⟩ := HXVD.out.cells; obtain ⟨r0, r1, r2, r3, r4, r5, r6, r7, r8, r9, r10, r11, r12, r13, r14, _⟩ := HGD.out.fif.cells; obtain ⟨s0, s1, s2, s3, s4, s5, s6, s7, s8, s9, s10, s11, s12, s13, s14, _⟩ := HWD.out.fif.cells) | (go_at_call 13; (refine (HMC.out _ _ _ _ _ HQ1.out (mark_ins HXD.out HYD.out HN.out.2.1)).mono ?_); rintro e w10 ⟨rfl, _, _, hm⟩; have hn := HN.out; have HB10 := hide (HBD.out.marked hm (fun a e => by cases e; show _ ≤ g3; omega) (fun a e => by cases e; show _ ≤ g4; omega)); have HW10 := hide (HWD.out.marked hm (fun a e => by cases e; show _ ≤ g3; omega) (fun a e => by cases e; show _ ≤ g4; omega)); have HG10 := hide (HGD.out.marked hm (fun a e => by cases e; exact hn.2.2.2.1) (fun a e => by cases e; exact hn.2.2.2.2.1)); have HZ10 := hide (HZD.out.block (hm.block _ HZD.out.lt (fun a e => by cases e; show _ ≠ g3; omega) (fun a e => by cases e; show _ ≠ g4; omega))); clear hm hn p0 p1 p2 p3 p4 p5 q0 q1 q2 q3 q4 q5 r0 r1 r2 r3 r4 r5 r6 r7 r8 r9 r10 r11 r12 r13 r14 s0 s1 s2 s3 s4 s5 s6 s7 s8 s9 s10 s11 s12 s13 s14; obtain ⟨p0, p1, p2, p3, p4, p5⟩ := HB10.out.cells; obtain ⟨r0, r1, r2, r3, r4, r5, r6, r7, r8, r9, r10, r11, r12, r13, r14, _⟩ := HG10.out.fif.cells; obtain ⟨s0, s1, s2, s3, s4, s5, s6, s7, s8, s9, s10, s11, s12, s13, s14, _⟩ := HW10.out.fif.cells) | (go_at_call 14; (refine (HML.out _ _ _ HQ1.out HQ2.out.1 HZ10.out).mono ?_); rintro e w10l ⟨rfl, hm⟩; have hn := HN.out; have HB10l := hide (HB10.out.marked hm (fun a e => by cases e; show _ ≤ w4.heap.size + 1; omega) (fun a e => by cases e)); have HW10l := hide (HW10.out.marked hm (fun a e => by cases e; show _ ≤ w4.heap.size + 1; omega) (fun a e => by cases e)); have HG10l := hide (HG10.out.marked hm (fun a e => by cases e; exact hn.2.2.2.2.2) (fun a e => by cases e)); clear hm hn p0 p1 p2 p3 p4 p5 r0 r1 r2 r3 r4 r5 r6 r7 r8 r9 r10 r11 r12 r13 r14 s0 s1 s2 s3 s4 s5 s6 s7 s8 s9 s10 s11 s12 s13 s14; obtain ⟨p0, p1, p2, p3, p4, p5⟩ := HB10l.out.cells; obtain ⟨r0, r1, r2, r3, r4, r5, r6, r7, r8, r9, r10, r11, r12, r13, r14, _⟩ := HG10l.out.fif.cells; obtain ⟨s0, s1, s2, s3, s4, s5, s6, s7, s8, s9, s10, s11, s12, s13, s14, _⟩ := HW10l.out.fif.cells) | (go_at_call 10; clear M5; (refine (HEO.out _ _ _ _ _ _ _ _ _ HQ1.out HQ2.out.1 HG10l.out.log HG10l.out.out HW10l.out.log.at_ HW10l.out.out.at_).mono ?_); rintro e w11 ⟨rfl, hb11⟩; have HB11 := hide (HB10l.out.step hb11); have HG11 := hide (HG10l.out.step hb11); have HW11 := hide (HW10l.out.step hb11); clear hb11 p0 p1 p2 p3 p4 p5 r0 r1 r2 r3 r4 r5 r6 r7 r8 r9 r10 r11 r12 r13 r14 s0 s1 s2 s3 s4 s5 s6 s7 s8 s9 s10 s11 s12 s13 s14; obtain ⟨p0, p1, p2, p3, p4, p5⟩ := HB11.out.cells; obtain ⟨r0, r1, r2, r3, r4, r5, r6, r7, r8, r9, r10, r11, r12, r13, r14, _⟩ := HG11.out.fif.cells; obtain ⟨s0, s1, s2, s3, s4, s5, s6, s7, s8, s9, s10, s11, s12, s13, s14, _⟩ := HW11.out.fif.cells) | (go_at_call 15; (refine (HMO.out _ _ _ _ _ HQ1.out HQ2.out.1 HG11.out.mrk).mono ?_); rintro e w12 ⟨rfl, hx, hy, hm⟩; have hn := HN.out; have HM12 := hide (HG11.out.own hm hx hy); have HB12 := hide (HB11.out.marked hm (fun a e => by have := (HG11.out.ne1 a e).1; omega) (fun a e => by have := (HG11.out.ne2 a e).1; omega)); have HW12 := hide (HW11.out.marked hm (fun a e => by have := (HG11.out.ne1 a e).1; omega) (fun a e => by have := (HG11.out.ne2 a e).1; omega)); clear hm hx hy hn p0 p1 p2 p3 p4 p5 r0 r1 r2 r3 r4 r5 r6 r7 r8 r9 r10 r11 r12 r13 r14 s0 s1 s2 s3 s4 s5 s6 s7 s8 s9 s10 s11 s12 s13 s14; obtain ⟨p0, p1, p2, p3, p4, p5⟩ := HB12.out.cells; obtain ⟨r0, r1, r2, r3, r4, r5, r6, r7, r8, r9, r10, r11, r12, r13, r14, _⟩ := HM12.out.fif.cells; obtain ⟨s0, s1, s2, s3, s4, s5, s6, s7, s8, s9, s10, s11, s12, s13, s14, _⟩ := HW12.out.fif.cells) | (go_at_call 16; clear M6; (refine (HHO.out _ _ _ _ _ HQ1.out HQ2.out.1 HM12.out.log HM12.out.out).mono ?_); rintro e w13 ⟨rfl, hb13⟩; have HB13 := hide (HB12.out.step hb13); have HM13 := hide (HM12.out.step hb13); have HW13 := hide (HW12.out.step hb13); clear hb13 p0 p1 p2 p3 p4 p5 r0 r1 r2 r3 r4 r5 r6 r7 r8 r9 r10 r11 r12 r13 r14 s0 s1 s2 s3 s4 s5 s6 s7 s8 s9 s10 s11 s12 s13 s14; obtain ⟨p0, p1, p2, p3, p4, p5⟩ := HB13.out.cells; obtain ⟨r0, r1, r2, r3, r4, r5, r6, r7, r8, r9, r10, r11, r12, r13, r14, _⟩ := HM13.out.fif.cells; obtain ⟨s0, s1, s2, s3, s4, s5, s6, s7, s8, s9, s10, s11, s12, s13, s14, _⟩ := HW13.out.fif.cells) | fail)
    all_goals (try (exfalso; omega))
    all_goals as_aux_lemma =>
      go_wp2_with (first | (go_at_call 7; (refine (HTO.out _ HQ1.out HB13.out.2).mono ?_); rintro e w14 ⟨g9, g10, rfl, hx, hy, _, _, hb14⟩; have HX14 := hide hx.opsAt; have HY14 := hide hy.opsAt; have HB14 := hide (HB13.out.step hb14); have HM14 := hide (HM13.out.step hb14); have HW14 := hide (HW13.out.step hb14); clear hb14 hx hy p0 p1 p2 p3 p4 p5 r0 r1 r2 r3 r4 r5 r6 r7 r8 r9 r10 r11 r12 r13 r14 s0 s1 s2 s3 s4 s5 s6 s7 s8 s9 s10 s11 s12 s13 s14; obtain ⟨p0, p1, p2, p3, p4, p5⟩ := HB14.out.cells; obtain ⟨r0, r1, r2, r3, r4, r5, r6, r7, r8, r9, r10, r11, r12, r13, r14, _⟩ := HM14.out.fif.cells; obtain ⟨s0, s1, s2, s3, s4, s5, s6, s7, s8, s9, s10, s11, s12, s13, s14, _⟩ := HW14.out.fif.cells) | (go_at_call 8; (refine (HTL.out _ HQ2.out.1 HB14.out.2).mono ?_); rintro e w14l ⟨rfl, hz, hbl⟩; have HZ14 := hide hz.opsAt; have HX14l := hide (HX14.out.stays hbl); have HY14l := hide (HY14.out.stays hbl); have HB14l := hide (HB14.out.step hbl); have HM14l := hide (HM14.out.step hbl); have HW14l := hide (HW14.out.step hbl); clear hbl hz p0 p1 p2 p3 p4 p5 r0 r1 r2 r3 r4 r5 r6 r7 r8 r9 r10 r11 r12 r13 r14 s0 s1 s2 s3 s4 s5 s6 s7 s8 s9 s10 s11 s12 s13 s14; obtain ⟨p0, p1, p2, p3, p4, p5⟩ := HB14l.out.cells; obtain ⟨r0, r1, r2, r3, r4, r5, r6, r7, r8, r9, r10, r11, r12, r13, r14, _⟩ := HM14l.out.fif.cells; obtain ⟨s0, s1, s2, s3, s4, s5, s6, s7, s8, s9, s10, s11, s12, s13, s14, _⟩ := HW14l.out.fif.cells) | (go_at_call 9; (refine (HIM.out _ _ _ _ _ _ _ _ _ HQ1.out HQ2.out (Nat.le_refl _) (Nat.le_refl _) (Nat.le_refl _) HB14l.out.2 HX14l.out HY14l.out HZ14.out).mono ?_); intro e w15 h15; obtain ⟨hl, ho, he, hL, hO, _, _, _, hb15⟩ := h15; unfold OutV.agg at he; subst he; have hbg : Below w15.heap.size w15 (w15.alloc (.cells #[.int .i64 x.cl.repl, .int .i64 x.cl.clock, .slice hl x.cl.log.length x.cl.log.length, .int .i64 x.cl.acked, .slice ho x.cl.out.length x.cl.out.length, .int .i64 x.cl.got, .int .i64 x.op.time, .int .i64 x.op.repl, .int .i64 x.op.kind, .int .i64 x.op.node, .int .i64 x.op.parent, .string x.op.name, .string x.op.value, .int .i64 x.many, .int .i64 x.code] 33)) := (Below.refl w15.heap.size w15).alloc (Nat.le_refl _) _; have HH15 := hide (Fif.new w15 x hl x.cl.log.length ho x.cl.out.length); have HHL := hide (hL.stays hbg); have HHO' := hide (hO.stays hbg); have HB15 := hide ((HB14l.out.step hb15).step hbg); have HM15 := hide ((HM14l.out.step hb15).step hbg); have HW15 := hide ((HW14l.out.step hb15).step hbg); clear hb15 hbg hL hO p0 p1 p2 p3 p4 p5 r0 r1 r2 r3 r4 r5 r6 r7 r8 r9 r10 r11 r12 r13 r14 s0 s1 s2 s3 s4 s5 s6 s7 s8 s9 s10 s11 s12 s13 s14; obtain ⟨q0, q1, q2, q3, q4, q5, q6, q7, q8, q9, q10, q11, q12, q13, q14, _⟩ := HH15.out.cells; obtain ⟨r0, r1, r2, r3, r4, r5, r6, r7, r8, r9, r10, r11, r12, r13, r14, _⟩ := HM15.out.fif.cells; obtain ⟨s0, s1, s2, s3, s4, s5, s6, s7, s8, s9, s10, s11, s12, s13, s14, _⟩ := HW15.out.fif.cells) | (go_at_call 10; (refine (HEO.out _ _ _ _ _ _ _ _ _ HQ1.out HQ2.out.1 HHL.out HHO'.out HW15.out.log.at_ HW15.out.out.at_).mono ?_); rintro e w16 ⟨rfl, hb16⟩; have HB16 := hide (HB15.out.step hb16); have HM16 := hide (HM15.out.step hb16); clear hb16 r0 r1 r2 r3 r4 r5 r6 r7 r8 r9 r10 r11 r12 r13 r14 s0 s1 s2 s3 s4 s5 s6 s7 s8 s9 s10 s11 s12 s13 s14 q0 q1 q2 q3 q4 q5 q6 q7 q8 q9 q10 q11 q12 q13 q14; obtain ⟨r0, r1, r2, r3, r4, r5, r6, r7, r8, r9, r10, r11, r12, r13, r14, _⟩ := HM16.out.fif.cells) | (go_at_call 16; (refine (HHO.out _ _ _ _ _ HQ1.out HQ2.out.1 HM16.out.log HM16.out.out).mono ?_); rintro e w17 ⟨rfl, hb17⟩; have HB17 := hide (HB16.out.step hb17); clear hb17) | fail)
      all_goals (try (exfalso; omega))
      all_goals (
        go_ret
        exact ⟨rfl, HB17.out.2⟩)
end Go.Proofs.YtkfjommoogmehaaDoor.OpR
