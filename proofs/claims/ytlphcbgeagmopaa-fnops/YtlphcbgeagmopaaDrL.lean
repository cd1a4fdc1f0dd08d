/- A source that is drawn from, and a variable that holds the op that is drawn: what calls, stores and new blocks leave of them. -/
import Derived.Test.YtlphcbgeagmopaaDrPick
import Derived.Test.YtlphcbgeagmopaaRdP
namespace Go.Proofs.Ytlphcbgeagmopaa.OpR
open Go.ChangeShapes Go.WideShapes Go.ChangeAt Go.RowKit Go.ChangeMaps
open SrcR (Src)
set_option linter.unusedVariables false

/-- A source that is drawn from, and what the draw has changed. -/
structure Dr (w X : World) (g : Nat) (ao : Option Addr) (len cap : Nat) : Prop where
  src : Src X g ao len cap
  grown : w.grownBy X (some g)
/-- What is known of a source where the draw begins. -/
structure Dg (w : World) (g : Nat) (ao : Option Addr) (len : Nat) : Prop where
  code : SrcR.Code w ao len
  far : ∀ a, ao = some a → a.block < w.heap.size ∧ a.block ≠ g
  lt : g < w.heap.size
theorem Dr.alloc {w X : World} {g : Nat} {ao : Option Addr} {len cap : Nat} (h : Dr w X g ao len cap) (o : Obj) : Dr w (X.alloc o) g ao len cap :=
  ⟨h.src.block (Below.heap_alloc _ _ _ h.src.lt), grown_trans' h.grown (grown_below' ((Below.refl _ _).alloc (Nat.le_refl _) _))⟩
theorem Dr.set {w X : World} {g : Nat} {ao : Option Addr} {len cap : Nat} (h : Dr w X g ao len cap) {b i : Nat} {v : Value} (hb : w.heap.size ≤ b) (hg : g < w.heap.size) : Dr w (X.setCell ⟨b, i, none⟩ v) g ao len cap :=
  ⟨h.src.block (heap_setCell_other _ ⟨b, i, none⟩ _ _ (show g ≠ b by omega)), grown_fresh h.grown hb⟩
theorem Dr.call {w X Y : World} {g : Nat} {ao : Option Addr} {len cap : Nat} (h : Dr w X g ao len cap) (hs : Src Y g ao len cap) (hg : X.grownBy Y (some g)) : Dr w Y g ao len cap := ⟨hs, grown_trans' h.grown hg⟩
theorem n_dr {w X : World} {g : Nat} {ao : Option Addr} {len cap : Nat} {most : Int} (h : Dr w X g ao len cap) (hg : Dg w g ao len) (h1 : 1 < most) (h2 : most ≤ 9223372036854775807) :
    Calls Try.prog 61 #[.pointer (some ⟨g, 0, none⟩), .int .i64 most] X fun e Y => ∃ v, e = .returned (.int .i64 v) ∧ 0 ≤ v ∧ v < most ∧ Dr w Y g ao len cap ∧ X.grownBy Y (some g) := by
  refine (SrcR.n_any g most X h1 h2 ao len cap h.src (hg.code.grown h.grown hg.far)).mono ?_
  rintro e Y ⟨v, he, h3, h4, h5, h6⟩
  exact ⟨v, he, h3, h4, h.call h5 h6, h6⟩
theorem one_dr {w X : World} {g : Nat} {ao : Option Addr} {len cap : Nat} {most : Int} (h : Dr w X g ao len cap) (hg : Dg w g ao len) (h1 : 1 < most) (h2 : most ≤ 9223372036854775807) :
    Calls Try.prog 43 #[.pointer (some ⟨g, 0, none⟩), .int .i64 most] X fun e Y => ∃ b : Bool, e = .returned (.bool b) ∧ Dr w Y g ao len cap ∧ X.grownBy Y (some g) := by
  refine (SrcR.one_any g most X h1 h2 ao len cap h.src (hg.code.grown h.grown hg.far)).mono ?_
  rintro e Y ⟨v, he, h5, h6⟩
  exact ⟨v == 0, he, h.call h5 h6, h6⟩
theorem pick_dr {w X : World} {g : Nat} {ao : Option Addr} {len cap : Nat} {t0 t1 t2 : ByteArray} {T : TypeId} (h : Dr w X g ao len cap) (hg : Dg w g ao len) (hw : w.heap.size ≤ X.heap.size) :
    Calls Try.prog 113 #[.pointer (some ⟨g, 0, none⟩), .slice (some ⟨X.heap.size, 0, none⟩) 3 3] (X.alloc (.cells #[.string t0, .string t1, .string t2] T)) fun e Y => ∃ t, e = .returned (.string t) ∧ (t = t0 ∨ t = t1 ∨ t = t2) ∧ Dr w Y g ao len cap ∧ (X.alloc (.cells #[.string t0, .string t1, .string t2] T)).grownBy Y (some g) := by
  have h' := h.alloc (.cells #[.string t0, .string t1, .string t2] T)
  refine (pick_any g (X.alloc (.cells #[.string t0, .string t1, .string t2] T)) X.heap.size t0 t1 t2 3 ao len cap h'.src (hg.code.grown h'.grown hg.far) (by have := hg.lt; omega) (by simp) (by simp) (by simp) (by simp)).mono ?_
  rintro e Y ⟨t, he, ht, h5, h6⟩
  exact ⟨t, he, ht, h'.call h5 h6, h6⟩
/-- The same, with the variable that holds the op and the result's place. -/
structure Dv (w X : World) (g : Nat) (ao : Option Addr) (len cap : Nat) (V : Nat) (o : OpV) : Prop where
  dr : Dr w X g ao len cap
  lies : X.heap[V]? = some (.cells #[.int .i64 o.time, .int .i64 o.repl, .int .i64 o.kind, .int .i64 o.node, .int .i64 o.parent, .string o.name, .string o.value] 40 (0, 0))
  far : w.heap.size < V
  res : X.heap[w.heap.size]? = some (.cells #[.int .i64 0, .int .i64 0, .int .i64 0, .int .i64 0, .int .i64 0, .string ⟨#[]⟩, .string ⟨#[]⟩] 40 (0, 0))
theorem Dv.lt {w X : World} {g : Nat} {ao : Option Addr} {len cap V : Nat} {o : OpV} (h : Dv w X g ao len cap V o) : V < X.heap.size := (Array.getElem?_eq_some_iff.1 h.lies).1
theorem Dv.call {w X Y : World} {g : Nat} {ao : Option Addr} {len cap V : Nat} {o : OpV} (h : Dv w X g ao len cap V o) (hg : Dg w g ao len) (hd : Dr w Y g ao len cap) (hgr : X.grownBy Y (some g)) : Dv w Y g ao len cap V o := by
  have h1 := hg.lt
  have h2 := h.far
  have h3 := h.lt
  exact ⟨hd, (hgr.block V h3 (fun e => by have := Option.some.inj e; omega)).trans h.lies, h.far, (hgr.block w.heap.size (by omega) (fun e => by have := Option.some.inj e; omega)).trans h.res⟩
theorem Dv.alloc {w X : World} {g : Nat} {ao : Option Addr} {len cap V : Nat} {o : OpV} (h : Dv w X g ao len cap V o) (ob : Obj) : Dv w (X.alloc ob) g ao len cap V o := by
  have h2 := h.far
  have h3 := h.lt
  exact ⟨h.dr.alloc ob, (Below.heap_alloc _ _ _ h3).trans h.lies, h.far, (Below.heap_alloc _ _ _ (by omega)).trans h.res⟩
theorem Dv.set {w X : World} {g : Nat} {ao : Option Addr} {len cap V : Nat} {o o' : OpV} (h : Dv w X g ao len cap V o) (hg : Dg w g ao len) (i : Nat) (u : Value) (ho : (#[.int .i64 o.time, .int .i64 o.repl, .int .i64 o.kind, .int .i64 o.node, .int .i64 o.parent, .string o.name, .string o.value] : Array Value).setIfInBounds i u = #[.int .i64 o'.time, .int .i64 o'.repl, .int .i64 o'.kind, .int .i64 o'.node, .int .i64 o'.parent, .string o'.name, .string o'.value]) : Dv w (X.setCell ⟨V, i, none⟩ u) g ao len cap V o' := by
  have h2 := h.far
  refine ⟨h.dr.set (Nat.le_of_lt h.far) hg.lt, ?_, h.far, (heap_setCell_other _ ⟨V, i, none⟩ _ _ (show w.heap.size ≠ V by omega)).trans h.res⟩
  rw [set_block h.lies i u, ho]
theorem Dv.four {w X : World} {g : Nat} {ao : Option Addr} {len cap V : Nat} {o : OpV} (h : Dv w X g ao len cap V o) : X.cell? ⟨V, 0, none⟩ = some (.int .i64 o.time) ∧ X.cell? ⟨V, 1, none⟩ = some (.int .i64 o.repl) ∧ X.cell? ⟨V, 3, none⟩ = some (.int .i64 o.node) ∧ X.cell? ⟨V, 5, none⟩ = some (.string o.name) := by
  have e := h.lies
  refine ⟨?_, ?_, ?_, ?_⟩ <;> simp [World.cell?, e]
theorem Dv.drew {w X : World} {g : Nat} {ao : Option Addr} {len cap V : Nat} {o : OpV} (h : Dv w X g ao len cap V o) : Dv w X.drew g ao len cap V o :=
  ⟨⟨h.dr.src, grown_trans' h.dr.grown (grown_below' (Below.refl _ _).drew)⟩, h.lies, h.far, h.res⟩
theorem Dv.start {w X : World} {g : Nat} {ao : Option Addr} {len cap : Nat} (h : Dr w X g ao len cap) (o : OpV) (hr : X.heap[w.heap.size]? = some (.cells #[.int .i64 0, .int .i64 0, .int .i64 0, .int .i64 0, .int .i64 0, .string ⟨#[]⟩, .string ⟨#[]⟩] 40 (0, 0))) : Dv w (X.alloc (.cells #[.int .i64 o.time, .int .i64 o.repl, .int .i64 o.kind, .int .i64 o.node, .int .i64 o.parent, .string o.name, .string o.value] 40)) g ao len cap X.heap.size o :=
  ⟨h.alloc _, heap_alloc_new X _, (Array.getElem?_eq_some_iff.1 hr).1, (Below.heap_alloc _ _ _ (Array.getElem?_eq_some_iff.1 hr).1).trans hr⟩

theorem info8d : (Try.prog.info? 5).map (fun i => (i.zero, i.size, i.bytes)) = some (some (.int .u8 0), 1, 1) := by kernel_rfl
theorem make_bytes (n : Nat) (hn : n ≤ 1048576) (w : World) : (Instr.makeSlice 22 (.int .i64 (n : Int)) (.int .i64 (n : Int))).run Try.prog w = .ok (.slice (some ⟨w.heap.size, 0, none⟩) n n) (w.alloc (.cells (madeCells #[.int .u8 0] n) 5)) :=
  run_make_row' 22 5 (.int .u8 0) 1 Try.underlying22 info8d rfl .i64 .i64 n (by omega) (by omega) w
theorem conv_zeros (w : World) (n : Nat) :
    (convert 22 9 (.slice (some ⟨w.heap.size, 0, none⟩) n n)).run Try.prog (w.alloc (.cells (madeCells #[.int .u8 0] n) 5)) = .ok (.string ⟨(List.replicate n (0 : UInt8)).toArray⟩) (w.alloc (.cells (madeCells #[.int .u8 0] n) 5)) := by
  have h := run_convert_bytes_back (P := Try.prog) (w.alloc (.cells (madeCells #[.int .u8 0] n) 5)) 22 9 5 ⟨w.heap.size, 0, none⟩ n (List.replicate n (0 : UInt8)) Try.underlying22 Try.underlying5 Try.underlying9 (fun j hj => by
    rw [Addr.add_lit, Nat.zero_add]
    have hj' : j < n := by simpa using hj
    have e : (madeCells #[Value.int .u8 0] n)[j]? = some (.int .u8 0) := by
      rw [← Array.getElem?_toList, toList_madeCells_one, List.getElem?_replicate]
      simp [hj']
    simp only [World.cell?_alloc_at, e]
    simp)
  simpa using h
end Go.Proofs.Ytlphcbgeagmopaa.OpR
