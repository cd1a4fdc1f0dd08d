/- What a client's law keeps of its variables, over calls and marks. -/
import Derived.Test.YtohepdnmjaegdaaDoorCliZ
namespace Go.Proofs.YtohepdnmjaegdaaDoor.OpR
open Go.ChangeShapes Go.WideShapes Go.ChangeAt Go.RowKit
set_option linter.unusedVariables false

theorem CliBox.marked {w W W' : World} {T : TypeId} {c : CliV} {la : Option Addr} {lc : Nat} {oa : Option Addr} {oc : Nat} {xa ya : Option Addr} (h : CliBox w W w.heap.size T c la lc oa oc) (hm : Marked xa ya W W') (h1 : ∀ a, xa = some a → w.heap.size + 1 ≤ a.block) (h2 : ∀ a, ya = some a → w.heap.size + 1 ≤ a.block) : CliBox w W' w.heap.size T c la lc oa oc :=
  ⟨(hm.block _ (Array.getElem?_eq_some_iff.1 h.1).1 (fun a e => by have := h1 a e; omega) (fun a e => by have := h2 a e; omega)).trans h.1, hm.below h.2 h.2.size (fun a e => by have := h1 a e; omega) (fun a e => by have := h2 a e; omega)⟩
theorem MarkOk.block_ {w w' : World} {ao : Option Addr} {n : Nat} (h : MarkOk w ao n) (hb : ∀ a, ao = some a → w'.heap[a.block]? = w.heap[a.block]?) : MarkOk w' ao n := by
  rcases h with ⟨g, N, rfl, hN, cs, e, hn⟩ | h
  · exact .inl ⟨g, N, rfl, hN, cs, (hb _ rfl).trans e, hn⟩
  · exact .inr h
/-- What the specification told, in a variable: all below N. -/
structure WS (N : Nat) (W : World) (V : Nat) (x : OutV) (la : Option Addr) (lc : Nat) (oa : Option Addr) (oc : Nat) : Prop where
  fif : Fif W V x la lc oa oc
  log : OLies N W la x.cl.log
  out : OLies N W oa x.cl.out
  low : V < N
theorem WS.new {W : World} {x : OutV} {la : Option Addr} {lc : Nat} {oa : Option Addr} {oc : Nat} (h1 : OpsAt W la x.cl.log) (h2 : OpsAt W oa x.cl.out) : WS (W.heap.size + 1) (W.alloc (.cells #[.int .i64 x.cl.repl, .int .i64 x.cl.clock, .slice la x.cl.log.length lc, .int .i64 x.cl.acked, .slice oa x.cl.out.length oc, .int .i64 x.cl.got, .int .i64 x.op.time, .int .i64 x.op.repl, .int .i64 x.op.kind, .int .i64 x.op.node, .int .i64 x.op.parent, .string x.op.name, .string x.op.value, .int .i64 x.many, .int .i64 x.code] 33)) W.heap.size x la lc oa oc :=
  ⟨Fif.new W x la lc oa oc, ⟨h1.stays ((Below.refl _ _).alloc (Nat.le_refl _) _), fun hne a e => Nat.lt_succ_of_lt ((OLies.of h1).low hne a e)⟩, ⟨h2.stays ((Below.refl _ _).alloc (Nat.le_refl _) _), fun hne a e => Nat.lt_succ_of_lt ((OLies.of h2).low hne a e)⟩, Nat.lt_succ_self _⟩
theorem WS.step {N : Nat} {W W' : World} {V : Nat} {x : OutV} {la : Option Addr} {lc : Nat} {oa : Option Addr} {oc : Nat} (h : WS N W V x la lc oa oc) (hb : Below W.heap.size W W') : WS N W' V x la lc oa oc := ⟨h.fif.step hb, h.log.stays hb, h.out.stays hb, h.low⟩
theorem OLies.marked {N : Nat} {W W' : World} {ao : Option Addr} {l : List OpV} {xa ya : Option Addr} (h : OLies N W ao l) (hm : Marked xa ya W W') (h1 : ∀ a, xa = some a → N ≤ a.block) (h2 : ∀ a, ya = some a → N ≤ a.block) : OLies N W' ao l :=
  ⟨fun j hj => by
    obtain ⟨b, off, e, hlt, ho⟩ := h.at_ j hj
    have hb := h.low (fun e0 => by rw [e0] at hj; exact absurd hj (by simp)) _ e
    exact ⟨b, off, e, Nat.lt_of_lt_of_le hlt hm.size, ho.block (hm.block b hlt (fun a ea => by have := h1 a ea; simp at hb; omega) (fun a ea => by have := h2 a ea; simp at hb; omega))⟩, h.low⟩
theorem WS.marked {N : Nat} {W W' : World} {V : Nat} {x : OutV} {la : Option Addr} {lc : Nat} {oa : Option Addr} {oc : Nat} {xa ya : Option Addr} (h : WS N W V x la lc oa oc) (hm : Marked xa ya W W') (h1 : ∀ a, xa = some a → N ≤ a.block) (h2 : ∀ a, ya = some a → N ≤ a.block) : WS N W' V x la lc oa oc :=
  ⟨h.fif.keep (hm.block _ h.fif.lt (fun a e => by have := h1 a e; have := h.low; omega) (fun a e => by have := h2 a e; have := h.low; omega)), h.log.marked hm h1 h2, h.out.marked hm h1 h2, h.low⟩
/-- What impl told, in a variable: none of it below N. -/
structure GS (N : Nat) (W : World) (V : Nat) (x : OutV) (gl go : Option Addr) : Prop where
  fif : Fif W V x gl x.cl.log.length go x.cl.out.length
  log : OpsAt W gl x.cl.log
  out : OpsAt W go x.cl.out
  mrk : MarkC W x.cl gl go
  ne1 : ∀ a, gl = some a → N ≤ a.block ∧ a.block < V
  ne2 : ∀ a, go = some a → N ≤ a.block ∧ a.block < V
  low : N ≤ V
theorem GS.new {N : Nat} {W : World} {x : OutV} {gl go : Option Addr} (h1 : OpsAt W gl x.cl.log) (h2 : OpsAt W go x.cl.out) (h3 : MarkC W x.cl gl go) (h4 : ∀ a, gl = some a → N ≤ a.block) (h5 : ∀ a, go = some a → N ≤ a.block) (h6 : N ≤ W.heap.size) : GS N (W.alloc (.cells #[.int .i64 x.cl.repl, .int .i64 x.cl.clock, .slice gl x.cl.log.length x.cl.log.length, .int .i64 x.cl.acked, .slice go x.cl.out.length x.cl.out.length, .int .i64 x.cl.got, .int .i64 x.op.time, .int .i64 x.op.repl, .int .i64 x.op.kind, .int .i64 x.op.node, .int .i64 x.op.parent, .string x.op.name, .string x.op.value, .int .i64 x.many, .int .i64 x.code] 33)) W.heap.size x gl go :=
  have hb := (Below.refl W.heap.size W).alloc (Nat.le_refl _) (.cells #[.int .i64 x.cl.repl, .int .i64 x.cl.clock, .slice gl x.cl.log.length x.cl.log.length, .int .i64 x.cl.acked, .slice go x.cl.out.length x.cl.out.length, .int .i64 x.cl.got, .int .i64 x.op.time, .int .i64 x.op.repl, .int .i64 x.op.kind, .int .i64 x.op.node, .int .i64 x.op.parent, .string x.op.name, .string x.op.value, .int .i64 x.many, .int .i64 x.code] 33)
  ⟨Fif.new W x gl _ go _, h1.stays hb, h2.stays hb, h3.below hb, fun a e => ⟨h4 a e, h3.log.lt a e⟩, fun a e => ⟨h5 a e, h3.out.lt a e⟩, h6⟩
theorem GS.step {N : Nat} {W W' : World} {V : Nat} {x : OutV} {gl go : Option Addr} (h : GS N W V x gl go) (hb : Below W.heap.size W W') : GS N W' V x gl go := ⟨h.fif.step hb, h.log.stays hb, h.out.stays hb, h.mrk.below hb, h.ne1, h.ne2, h.low⟩
theorem GS.marked {N : Nat} {W W' : World} {V : Nat} {x : OutV} {gl go : Option Addr} {xa ya : Option Addr} (h : GS N W V x gl go) (hm : Marked xa ya W W') (h1 : ∀ a, xa = some a → a.block < N) (h2 : ∀ a, ya = some a → a.block < N) : GS N W' V x gl go :=
  have a1 : ∀ a, gl = some a → W'.heap[a.block]? = W.heap[a.block]? := fun a e => hm.block _ (h.mrk.log.lt a e) (fun b eb => by have := h1 b eb; have := (h.ne1 a e).1; omega) (fun b eb => by have := h2 b eb; have := (h.ne1 a e).1; omega)
  have a2 : ∀ a, go = some a → W'.heap[a.block]? = W.heap[a.block]? := fun a e => hm.block _ (h.mrk.out.lt a e) (fun b eb => by have := h1 b eb; have := (h.ne2 a e).1; omega) (fun b eb => by have := h2 b eb; have := (h.ne2 a e).1; omega)
  ⟨h.fif.keep (hm.block _ h.fif.lt (fun b eb => by have := h1 b eb; have := h.low; omega) (fun b eb => by have := h2 b eb; have := h.low; omega)), h.log.block_ hm.size a1, h.out.block_ hm.size a2, ⟨h.mrk.log.block_ a1, h.mrk.out.block_ a2, h.mrk.apart⟩, h.ne1, h.ne2, h.low⟩
/-- The same with its rows marked. -/
structure GM (W : World) (V : Nat) (x : OutV) (gl go : Option Addr) : Prop where
  fif : Fif W V x gl x.cl.log.length go x.cl.out.length
  log : OpsAt W gl (marks 1 x.cl.log.length)
  out : OpsAt W go (marks (1 + 7 * x.cl.log.length) x.cl.out.length)
theorem GS.own {N : Nat} {W W' : World} {V : Nat} {x : OutV} {gl go : Option Addr} (h : GS N W V x gl go) (hm : Marked gl go W W') (h1 : OpsAt W' gl (marks 1 x.cl.log.length)) (h2 : OpsAt W' go (marks (1 + 7 * x.cl.log.length) x.cl.out.length)) : GM W' V x gl go :=
  ⟨h.fif.keep (hm.block _ h.fif.lt (fun a e => by have := (h.ne1 a e).2; omega) (fun a e => by have := (h.ne2 a e).2; omega)), h1, h2⟩
theorem GM.step {W W' : World} {V : Nat} {x : OutV} {gl go : Option Addr} (h : GM W V x gl go) (hb : Below W.heap.size W W') : GM W' V x gl go := ⟨h.fif.step hb, h.log.stays hb, h.out.stays hb⟩
theorem mark_ins {W : World} {c : CliV} {g3 g4 : Nat} (h3 : OpsIn W g3 31 c.log) (h4 : OpsIn W g4 31 c.out) (hne : g3 < g4) : MarkC W c (some ⟨g3, 0, none⟩) (some ⟨g4, 0, none⟩) :=
  ⟨.inl ⟨g3, _, rfl, Nat.le_refl _, opsArr c.log, h3, opsArr_size _⟩, .inl ⟨g4, _, rfl, Nat.le_refl _, opsArr c.out, h4, opsArr_size _⟩, fun x y ex ey => by cases ex; cases ey; show g3 ≠ g4; omega⟩
end Go.Proofs.YtohepdnmjaegdaaDoor.OpR
