/- An answer of ops in a variable of the harness, and what is kept of it. -/
import Derived.Test.YtbahpaihblelmaeSLog
import Derived.Test.YtbahpaihblelmaeOutW
namespace Go.Proofs.Ytbahpaihblelmae.OpR
open Go.ChangeShapes Go.WideShapes Go.ChangeAt Go.RowKit
set_option linter.unusedVariables false

/-- An answer of ops in a variable: its three cells, and what lies in its row. -/
structure Ans (W : World) (V : Nat) (a : Option Addr) (c n : Nat) (many code : Int) (L : List OpV) : Prop where
  lies : W.heap[V]? = some (.cells #[.slice a n c, .int .i64 many, .int .i64 code] 24 (0, 0))
  row : OpsAt W a L
  low : ∀ x, a = some x → x.block < V
theorem Ans.lt {W : World} {V : Nat} {a : Option Addr} {c n : Nat} {many code : Int} {L : List OpV} (h : Ans W V a c n many code L) : V < W.heap.size := (Array.getElem?_eq_some_iff.1 h.lies).1
theorem Ans.below {W W' : World} {V : Nat} {a : Option Addr} {c n : Nat} {many code : Int} {L : List OpV} (h : Ans W V a c n many code L) (hb : Below W.heap.size W W') : Ans W' V a c n many code L :=
  ⟨(hb.block V h.lt).trans h.lies, h.row.stays hb, h.low⟩
theorem Ans.new (w : World) (a : Option Addr) (c n : Nat) (many code : Int) (L : List OpV) (h : OpsAt w a L) (hl : ∀ x, a = some x → x.block < w.heap.size) : Ans (w.alloc (.cells #[.slice a n c, .int .i64 many, .int .i64 code] 24)) w.heap.size a c n many code L :=
  ⟨heap_alloc_new w _, h.stays ((Below.refl _ _).alloc (Nat.le_refl _) _), hl⟩
theorem Ans.grown {W W' : World} {V : Nat} {a : Option Addr} {c n : Nat} {many code : Int} {L : List OpV} (h : Ans W V a c n many code L) {row : Option Nat} (hg : W.grownBy W' row) (hV : row ≠ some V) (hr : ∀ x, a = some x → row ≠ some x.block) : Ans W' V a c n many code L :=
  ⟨(hg.block V h.lt (fun e => hV e.symm)).trans h.lies, fun j hj => by
    obtain ⟨b, off, e, hlt, ho⟩ := h.row j hj
    exact ⟨b, off, e, Nat.lt_of_lt_of_le hlt hg.size, ho.block (hg.block b hlt (fun e2 => hr _ e e2.symm))⟩, h.low⟩
theorem Ans.marked {W W' : World} {V : Nat} {a : Option Addr} {c n : Nat} {many code : Int} {L M : List OpV} (h : Ans W V a c n many code L) {row : Option Nat} (hg : W.grownBy W' row) (hV : row ≠ some V) (hM : OpsAt W' a M) : Ans W' V a c n many code M :=
  ⟨(hg.block V h.lt (fun e => hV e.symm)).trans h.lies, hM, h.low⟩
theorem Ans.cells {W : World} {V : Nat} {a : Option Addr} {c n : Nat} {many code : Int} {L : List OpV} (h : Ans W V a c n many code L) : W.cell? ⟨V, 0, none⟩ = some (.slice a n c) ∧ W.cell? ⟨V, 1, none⟩ = some (.int .i64 many) ∧ W.cell? ⟨V, 2, none⟩ = some (.int .i64 code) := by
  have e := h.lies
  refine ⟨?_, ?_, ?_⟩ <;> simp [World.cell?, e]
theorem OpsIn.rowB {w : World} {g : Nat} {T : TypeId} {l : List OpV} (h : OpsIn w g T l) : RowB w g T (l.length * 7) := ⟨opsArr l, h, opsArr_size l⟩
theorem OpsIn.grown {w w' : World} {g : Nat} {T : TypeId} {l : List OpV} (h : OpsIn w g T l) {row : Option Nat} (hg : w.grownBy w' row) (hne : row ≠ some g) : OpsIn w' g T l := h.block (hg.block g h.lt (fun e => hne e.symm))
theorem MarkOk.grown {w w' : World} {ag : Option Addr} {n : Nat} (h : MarkOk w ag n) {row : Option Nat} (hg : w.grownBy w' row) (hr : ∀ x, ag = some x → row ≠ some x.block) : MarkOk w' ag n := by
  rcases h with ⟨g, N, rfl, hN, cs, e, hn⟩ | h
  · refine .inl ⟨g, N, rfl, hN, cs, ?_, hn⟩
    have hlt : g < w.heap.size := (Array.getElem?_eq_some_iff.1 e).1
    exact (hg.block g hlt (fun e2 => hr _ rfl e2.symm)).trans e
  · exact .inr h
theorem row_ne {a b : Nat} (h : a ≠ b) : (some a : Option Nat) ≠ some b := fun e => h (by cases e; rfl)
theorem map_ne {a : Option Addr} {V : Nat} (h : ∀ x, a = some x → x.block ≠ V) : a.map (·.block) ≠ some V := by
  cases a with
  | none => simp
  | some x => simpa using h x rfl
theorem OpsOf.lt {w : World} {base : Nat} {T : TypeId} {l : List OpV} {a : Option Addr} {n c : Nat} (h : OpsOf w base T (.slice a n c) l) : ∀ x, a = some x → x.block < w.heap.size := by
  rcases h with h | ⟨e, _⟩
  · obtain ⟨g, cap, e, _, hlt, _⟩ := h.at
    intro x hx
    simp only [Value.slice.injEq] at e
    rw [e.1] at hx
    cases hx
    exact hlt
  · intro x hx
    simp only [Value.slice.injEq] at e
    rw [e.1] at hx
    cases hx

end Go.Proofs.Ytbahpaihblelmae.OpR
