/- What was told of servers, in variables of a law. -/
import Derived.Test.YtkfjommoogmehaaSrvE
import Derived.Test.YtkfjommoogmehaaSrvL
namespace Go.Proofs.Ytkfjommoogmehaa.OpR
open Go.ChangeShapes Go.WideShapes Go.ChangeAt Go.RowKit
set_option linter.unusedVariables false

/-- What spec told lies in a world, and that world stands below. -/
structure NO (w N W : World) (V : Nat) (s : SrvV) (la : Option Addr) (lc : Nat) (sa : Option Addr) (sc : Nat) (x : SOutV) (sl : Option Addr) (slc : Nat) (ss : Option Addr) (ssc : Nat) (so : Option Addr) (soc : Nat) : Prop where
  sv : SL w N s la lc sa sc
  fif : Fiv N V x sl slc ss ssc so soc
  ops_ : OpsAt N sl x.srv.ops
  seen_ : SeensAt N ss x.srv.seen
  out_ : OpsAt N so x.ops
  low : Below N.heap.size N W
section
variable {w N W W' : World} {V : Nat} {s : SrvV} {la : Option Addr} {lc : Nat} {sa : Option Addr} {sc : Nat} {x : SOutV} {sl : Option Addr} {slc : Nat} {ss : Option Addr} {ssc : Nat} {so : Option Addr} {soc : Nat}
theorem NO.new {W : World} (h : SL w W s la lc sa sc) (h1 : OpsAt W sl x.srv.ops) (h2 : SeensAt W ss x.srv.seen) (h3 : OpsAt W so x.ops) : NO w (W.alloc (.cells #[.slice sl x.srv.ops.length slc, .slice ss x.srv.seen.length ssc, .slice so x.ops.length soc, .int .i64 x.many, .int .i64 x.code] 37)) (W.alloc (.cells #[.slice sl x.srv.ops.length slc, .slice ss x.srv.seen.length ssc, .slice so x.ops.length soc, .int .i64 x.many, .int .i64 x.code] 37)) W.heap.size s la lc sa sc x sl slc ss ssc so soc :=
  have hb := (Below.refl W.heap.size W).alloc (Nat.le_refl _) (.cells #[.slice sl x.srv.ops.length slc, .slice ss x.srv.seen.length ssc, .slice so x.ops.length soc, .int .i64 x.many, .int .i64 x.code] 37)
  ⟨h.step hb, Fiv.new W x sl slc ss ssc so soc, h1.stays hb, h2.stays hb, h3.stays hb, Below.refl _ _⟩
theorem NO.step (h : NO w N W V s la lc sa sc x sl slc ss ssc so soc) (hb : Below W.heap.size W W') : NO w N W' V s la lc sa sc x sl slc ss ssc so soc := ⟨h.sv, h.fif, h.ops_, h.seen_, h.out_, h.low.trans (hb.mono h.low.size)⟩
theorem NO.drew (h : NO w N W V s la lc sa sc x sl slc ss ssc so soc) : NO w N W.drew V s la lc sa sc x sl slc ss ssc so soc := h.step (Below.refl _ W).drew
theorem NO.marked {rs : List (Option Addr)} (h : NO w N W V s la lc sa sc x sl slc ss ssc so soc) (hm : MarkedL rs W W') (hr : ∀ b ∈ rs, ∀ a, b = some a → N.heap.size ≤ a.block) : NO w N W' V s la lc sa sc x sl slc ss ssc so soc := ⟨h.sv, h.fif, h.ops_, h.seen_, h.out_, hm.below h.low h.low.size hr⟩
theorem NO.below (h : NO w N W V s la lc sa sc x sl slc ss ssc so soc) : Below w.heap.size w W := (h.sv.step h.low).below
theorem NO.p (h : NO w N W V s la lc sa sc x sl slc ss ssc so soc) : W.cell? ⟨w.heap.size, 0, none⟩ = some (.slice la s.ops.length lc) ∧ W.cell? ⟨w.heap.size, 1, none⟩ = some (.slice sa s.seen.length sc) := (h.sv.step h.low).cells
theorem NO.q (h : NO w N W V s la lc sa sc x sl slc ss ssc so soc) : W.cell? ⟨V, 0, none⟩ = some (.slice sl x.srv.ops.length slc) ∧ W.cell? ⟨V, 1, none⟩ = some (.slice ss x.srv.seen.length ssc) ∧ W.cell? ⟨V, 2, none⟩ = some (.slice so x.ops.length soc) ∧ W.cell? ⟨V, 3, none⟩ = some (.int .i64 x.many) ∧ W.cell? ⟨V, 4, none⟩ = some (.int .i64 x.code) := (h.fif.step h.low).cells
theorem NO.ops (h : NO w N W V s la lc sa sc x sl slc ss ssc so soc) : OpsAt W sl x.srv.ops := h.ops_.stays h.low
theorem NO.seen (h : NO w N W V s la lc sa sc x sl slc ss ssc so soc) : SeensAt W ss x.srv.seen := h.seen_.stays h.low
theorem NO.out (h : NO w N W V s la lc sa sc x sl slc ss ssc so soc) : OpsAt W so x.ops := h.out_.stays h.low
theorem NO.lt (h : NO w N W V s la lc sa sc x sl slc ss ssc so soc) : N.heap.size ≤ W.heap.size := h.low.size
end
/-- What impl told, in a variable: none of it below N. -/
structure GO (N : Nat) (W : World) (V : Nat) (x : SOutV) (gl : Option Addr) (glc : Nat) (gs : Option Addr) (gsc : Nat) (go : Option Addr) (goc : Nat) : Prop where
  fif : Fiv W V x gl glc gs gsc go goc
  ops : OpsAt W gl x.srv.ops
  seen : SeensAt W gs x.srv.seen
  out : OpsAt W go x.ops
  mrk : MarkSO W x gl gs go
  ne : ∀ b ∈ [gl, gs, go], ∀ a, b = some a → N ≤ a.block ∧ a.block < V
  low : N ≤ V
section
variable {N : Nat} {W W' : World} {V : Nat} {x : SOutV} {gl : Option Addr} {glc : Nat} {gs : Option Addr} {gsc : Nat} {go : Option Addr} {goc : Nat}
theorem GO.new {W : World} (h1 : OpsAt W gl x.srv.ops) (h2 : SeensAt W gs x.srv.seen) (h3 : OpsAt W go x.ops) (h4 : MarkSO W x gl gs go) (a1 : ∀ a, gl = some a → N ≤ a.block) (a2 : ∀ a, gs = some a → N ≤ a.block) (a3 : ∀ a, go = some a → N ≤ a.block) (h6 : N ≤ W.heap.size) : GO N (W.alloc (.cells #[.slice gl x.srv.ops.length glc, .slice gs x.srv.seen.length gsc, .slice go x.ops.length goc, .int .i64 x.many, .int .i64 x.code] 37)) W.heap.size x gl glc gs gsc go goc :=
  have hb := (Below.refl W.heap.size W).alloc (Nat.le_refl _) (.cells #[.slice gl x.srv.ops.length glc, .slice gs x.srv.seen.length gsc, .slice go x.ops.length goc, .int .i64 x.many, .int .i64 x.code] 37)
  ⟨Fiv.new W x gl glc gs gsc go goc, h1.stays hb, h2.stays hb, h3.stays hb, h4.below hb, fun b hm a e => by
    rcases List.mem_cons.1 hm with rfl | hm
    · exact ⟨a1 a e, h4.srv.ops.lt_ a e⟩
    rcases List.mem_cons.1 hm with rfl | hm
    · exact ⟨a2 a e, h4.srv.seen.lt a e⟩
    obtain rfl := List.mem_singleton.1 hm
    exact ⟨a3 a e, h4.ops.lt_ a e⟩, h6⟩
theorem GO.step (h : GO N W V x gl glc gs gsc go goc) (hb : Below W.heap.size W W') : GO N W' V x gl glc gs gsc go goc := ⟨h.fif.step hb, h.ops.stays hb, h.seen.stays hb, h.out.stays hb, h.mrk.below hb, h.ne, h.low⟩
theorem GO.cells (h : GO N W V x gl glc gs gsc go goc) : W.cell? ⟨V, 0, none⟩ = some (.slice gl x.srv.ops.length glc) ∧ W.cell? ⟨V, 1, none⟩ = some (.slice gs x.srv.seen.length gsc) ∧ W.cell? ⟨V, 2, none⟩ = some (.slice go x.ops.length goc) ∧ W.cell? ⟨V, 3, none⟩ = some (.int .i64 x.many) ∧ W.cell? ⟨V, 4, none⟩ = some (.int .i64 x.code) := h.fif.cells
theorem GO.marked {rs : List (Option Addr)} (h : GO N W V x gl glc gs gsc go goc) (hm : MarkedL rs W W') (hr : ∀ b ∈ rs, ∀ a, b = some a → a.block < N) : GO N W' V x gl glc gs gsc go goc :=
  have ap : ∀ c ∈ [gl, gs, go], ApartL rs c := fun c hc b hb y z e1 e2 => by have := hr b hb y e1; have := (h.ne c hc z e2).1; omega
  have p1 := ap gl (by simp)
  have p2 := ap gs (by simp)
  have p3 := ap go (by simp)
  ⟨h.fif.keep (hm.block _ h.fif.lt (fun b hb a e => by have := hr b hb a e; have := h.low; omega)), h.ops.markedL hm p1, h.seen.markedL hm p2, h.out.markedL hm p3, h.mrk.markedL hm p1 p2 p3, h.ne, h.low⟩
end
/-- The same with its rows marked. -/
structure MO (W : World) (V : Nat) (x : SOutV) (gl : Option Addr) (glc : Nat) (gs : Option Addr) (gsc : Nat) (go : Option Addr) (goc : Nat) : Prop where
  fif : Fiv W V x gl glc gs gsc go goc
  ops : OpsAt W gl (marks 1 x.srv.ops.length)
  seen : SeensAt W gs (marksE (1 + 7 * x.srv.ops.length) x.srv.seen.length)
  out : OpsAt W go (marks (1 + 7 * x.srv.ops.length + 2 * x.srv.seen.length) x.ops.length)
section
variable {N : Nat} {W W' : World} {V : Nat} {x : SOutV} {gl : Option Addr} {glc : Nat} {gs : Option Addr} {gsc : Nat} {go : Option Addr} {goc : Nat}
theorem GO.own (h : GO N W V x gl glc gs gsc go goc) (hm : MarkedL [gl, gs, go] W W') (h1 : OpsAt W' gl (marks 1 x.srv.ops.length)) (h2 : SeensAt W' gs (marksE (1 + 7 * x.srv.ops.length) x.srv.seen.length)) (h3 : OpsAt W' go (marks (1 + 7 * x.srv.ops.length + 2 * x.srv.seen.length) x.ops.length)) : MO W' V x gl glc gs gsc go goc :=
  ⟨h.fif.keep (hm.block _ h.fif.lt (fun b hb a e => by have := (h.ne b hb a e).2; omega)), h1, h2, h3⟩
theorem MO.step (h : MO W V x gl glc gs gsc go goc) (hb : Below W.heap.size W W') : MO W' V x gl glc gs gsc go goc := ⟨h.fif.step hb, h.ops.stays hb, h.seen.stays hb, h.out.stays hb⟩
theorem MO.cells (h : MO W V x gl glc gs gsc go goc) : W.cell? ⟨V, 0, none⟩ = some (.slice gl x.srv.ops.length glc) ∧ W.cell? ⟨V, 1, none⟩ = some (.slice gs x.srv.seen.length gsc) ∧ W.cell? ⟨V, 2, none⟩ = some (.slice go x.ops.length goc) ∧ W.cell? ⟨V, 3, none⟩ = some (.int .i64 x.many) ∧ W.cell? ⟨V, 4, none⟩ = some (.int .i64 x.code) := h.fif.cells
end
theorem seenIn_mark {W : World} {g : Nat} {l : List SeenV} (h : InG SeenV.cells W g 51 l) : MarkE W (some ⟨g, 0, none⟩) l.length := .inl ⟨g, l.length * 2, rfl, Nat.le_refl _, (flatG SeenV.cells l).toArray, h, by rw [List.size_toArray]; exact flatG_len (cs := SeenV.cells) (c := 2) (fun _ => rfl) l⟩
theorem mark_sv {W : World} {s : SrvV} {g3 g4 : Nat} (h3 : OpsIn W g3 65 s.ops) (h4 : InG SeenV.cells W g4 51 s.seen) (hne : g3 < g4) : MarkSv W s (some ⟨g3, 0, none⟩) (some ⟨g4, 0, none⟩) :=
  ⟨in_mark h3, seenIn_mark h4, fun x y ex ey => by cases ex; cases ey; show g3 ≠ g4; omega⟩
end Go.Proofs.Ytkfjommoogmehaa.OpR
