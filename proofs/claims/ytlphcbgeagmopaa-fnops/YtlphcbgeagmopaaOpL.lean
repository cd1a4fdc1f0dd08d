/- A row of ops that the call itself has made: what lies in it, and what a store of an op makes of it. -/
import Derived.Test.YtlphcbgeagmopaaOpM
namespace Go.Proofs.Ytlphcbgeagmopaa.OpR
open Go.ChangeShapes Go.WideShapes Go.ChangeAt Go.RowKit
set_option linter.unusedVariables false

def OpV.zero : OpV := ⟨0, 0, 0, 0, 0, ⟨#[]⟩, ⟨#[]⟩⟩
def flat (l : List OpV) : List Value := l.flatMap OpV.cells
/-- The cells of a row of ops. -/
def opsArr (l : List OpV) : Array Value := (flat l).toArray
theorem flat_cons (o : OpV) (l : List OpV) : flat (o :: l) = o.cells ++ flat l := by simp [flat]
theorem flat_app (a b : List OpV) : flat (a ++ b) = flat a ++ flat b := by simp [flat]
theorem cells_len (o : OpV) : o.cells.length = 7 := rfl
theorem flat_len (l : List OpV) : (flat l).length = l.length * 7 := by
  induction l with
  | nil => rfl
  | cons o l ih => rw [flat_cons, List.length_append, ih, cells_len, List.length_cons]; omega
theorem flat_get : ∀ (l : List OpV) (k f : Nat) (hk : k < l.length), f < 7 → (flat l)[k * 7 + f]? = l[k].cells[f]?
  | o :: l, 0, f, hk, hf => by
    rw [flat_cons, Nat.zero_mul, Nat.zero_add, List.getElem?_append_left (by rw [cells_len]; exact hf)]; rfl
  | o :: l, k + 1, f, hk, hf => by
    rw [flat_cons, List.getElem?_append_right (by rw [cells_len]; omega), cells_len, show (k + 1) * 7 + f - 7 = k * 7 + f by omega]
    exact flat_get l k f (by simpa using hk) hf
theorem opsArr_size (l : List OpV) : (opsArr l).size = l.length * 7 := by simp [opsArr, flat_len]
theorem opsArr_get {l : List OpV} {k f : Nat} (hk : k < l.length) (hf : f < 7) : (opsArr l)[k * 7 + f]? = l[k].cells[f]? := by
  unfold opsArr
  rw [List.getElem?_toArray, flat_get l k f hk hf]
/-- Seven stores are the store of an op. -/
theorem flat_set : ∀ (l : List OpV) (k : Nat) (o : OpV), k < l.length →
    ((((((((flat l).set (k * 7) (.int .i64 o.time)).set (k * 7 + 1) (.int .i64 o.repl)).set (k * 7 + 2) (.int .i64 o.kind)).set (k * 7 + 3) (.int .i64 o.node)).set (k * 7 + 4) (.int .i64 o.parent)).set (k * 7 + 5) (.string o.name)).set (k * 7 + 6) (.string o.value)) = flat (l.set k o)
  | x :: l, 0, o, hk => by
    rw [flat_cons, List.set_cons_zero, flat_cons]; rfl
  | x :: l, k + 1, o, hk => by
    rw [flat_cons, List.set_cons_succ, flat_cons, ← flat_set l k o (by simpa using hk)]
    have e : ∀ (f : Nat) (v : Value) (r : List Value), (x.cells ++ r).set ((k + 1) * 7 + f) v = x.cells ++ r.set (k * 7 + f) v := fun f v r => by
      rw [List.set_append_right _ _ (by rw [cells_len]; omega), cells_len, show (k + 1) * 7 + f - 7 = k * 7 + f by omega]
    have e0 := e 0
    simp only [Nat.add_zero] at e0
    rw [e0, e 1, e 2, e 3, e 4, e 5, e 6]
theorem opsArr_set {l : List OpV} {k : Nat} (o : OpV) (hk : k < l.length) :
    (((((((opsArr l).setIfInBounds (k * 7) (.int .i64 o.time)).setIfInBounds (k * 7 + 1) (.int .i64 o.repl)).setIfInBounds (k * 7 + 2) (.int .i64 o.kind)).setIfInBounds (k * 7 + 3) (.int .i64 o.node)).setIfInBounds (k * 7 + 4) (.int .i64 o.parent)).setIfInBounds (k * 7 + 5) (.string o.name)).setIfInBounds (k * 7 + 6) (.string o.value) = opsArr (l.set k o) := by
  unfold opsArr
  simp only [List.setIfInBounds_toArray]
  rw [flat_set l k o hk]

/-- A block of ops, none frozen. -/
def OpsIn (w : World) (g : Nat) (T : TypeId) (l : List OpV) : Prop := w.heap[g]? = some (.cells (opsArr l) T (0, 0))
theorem OpsIn.lt {w : World} {g : Nat} {T : TypeId} {l : List OpV} (h : OpsIn w g T l) : g < w.heap.size := (Array.getElem?_eq_some_iff.1 h).1
theorem OpsIn.cell {w : World} {g : Nat} {T : TypeId} {l : List OpV} (h : OpsIn w g T l) {k f : Nat} (hk : k < l.length) (hf : f < 7) {v : Value} (hv : l[k].cells[f]? = some v) : w.cell? ⟨g, k * 7 + f, none⟩ = some v := by
  have e := opsArr_get hk hf
  rw [hv] at e
  unfold OpsIn at h
  simp [World.cell?, h, e]
theorem OpsIn.frozen {w : World} {g : Nat} {T : TypeId} {l : List OpV} (h : OpsIn w g T l) (p : Nat) : w.frozen? ⟨g, p, none⟩ = false := by
  unfold OpsIn at h
  simp [World.frozen?, h]
theorem OpsIn.opAt {w : World} {g : Nat} {T : TypeId} {l : List OpV} (h : OpsIn w g T l) {k : Nat} (hk : k < l.length) : OpAt w g (k * 7) l[k] :=
  ⟨h.cell hk (f := 0) (by omega) rfl, h.cell hk (f := 1) (by omega) rfl, h.cell hk (f := 2) (by omega) rfl, h.cell hk (f := 3) (by omega) rfl, h.cell hk (f := 4) (by omega) rfl, h.cell hk (f := 5) (by omega) rfl, h.cell hk (f := 6) (by omega) rfl⟩
theorem OpsIn.opsAt {w : World} {g : Nat} {T : TypeId} {l : List OpV} (h : OpsIn w g T l) : OpsAt w (some ⟨g, 0, none⟩) l := fun j hj =>
  ⟨g, 0, rfl, h.lt, by rw [Nat.zero_add]; exact h.opAt hj⟩
theorem OpsIn.block {w w' : World} {g : Nat} {T : TypeId} {l : List OpV} (h : OpsIn w g T l) (e : w'.heap[g]? = w.heap[g]?) : OpsIn w' g T l := e.trans h
theorem OpsIn.stays {w w' : World} {g : Nat} {T : TypeId} {l : List OpV} (h : OpsIn w g T l) (hb : Below w.heap.size w w') : OpsIn w' g T l := h.block (hb.block g h.lt)
theorem set_block {w : World} {g : Nat} {cs : Array Value} {T : TypeId} (h : w.heap[g]? = some (.cells cs T (0, 0))) (i : Nat) (v : Value) : (w.setCell ⟨g, i, none⟩ v).heap[g]? = some (.cells (cs.setIfInBounds i v) T (0, 0)) :=
  heap_setCell_same w g i cs T v h
/-- What a store of an op leaves. -/
theorem OpsIn.store {w : World} {g : Nat} {T : TypeId} {l : List OpV} (h : OpsIn w g T l) {k : Nat} (hk : k < l.length) (o : OpV) :
    OpsIn (((((((w.setCell ⟨g, k * 7, none⟩ (.int .i64 o.time)).setCell ⟨g, k * 7 + 1, none⟩ (.int .i64 o.repl)).setCell ⟨g, k * 7 + 2, none⟩ (.int .i64 o.kind)).setCell ⟨g, k * 7 + 3, none⟩ (.int .i64 o.node)).setCell ⟨g, k * 7 + 4, none⟩ (.int .i64 o.parent)).setCell ⟨g, k * 7 + 5, none⟩ (.string o.name)).setCell ⟨g, k * 7 + 6, none⟩ (.string o.value)) g T (l.set k o) := by
  have h7 := set_block (set_block (set_block (set_block (set_block (set_block (set_block h (k * 7) (.int .i64 o.time)) (k * 7 + 1) (.int .i64 o.repl)) (k * 7 + 2) (.int .i64 o.kind)) (k * 7 + 3) (.int .i64 o.node)) (k * 7 + 4) (.int .i64 o.parent)) (k * 7 + 5) (.string o.name)) (k * 7 + 6) (.string o.value)
  rw [opsArr_set o hk] at h7
  exact h7
theorem Below.store7 {B : Nat} {a w : World} (h : Below B a w) {g : Nat} (hg : B ≤ g) (p0 p1 p2 p3 p4 p5 p6 : Nat) (v0 v1 v2 v3 v4 v5 v6 : Value) :
    Below B a (((((((w.setCell ⟨g, p0, none⟩ v0).setCell ⟨g, p1, none⟩ v1).setCell ⟨g, p2, none⟩ v2).setCell ⟨g, p3, none⟩ v3).setCell ⟨g, p4, none⟩ v4).setCell ⟨g, p5, none⟩ v5).setCell ⟨g, p6, none⟩ v6) :=
  ((((((h.setCell hg _).setCell hg _).setCell hg _).setCell hg _).setCell hg _).setCell hg _).setCell hg _

/-- New ops, all zero. -/
theorem made_ops (n : Nat) : madeCells #[Value.int .i64 0, .int .i64 0, .int .i64 0, .int .i64 0, .int .i64 0, .string ⟨#[]⟩, .string ⟨#[]⟩] (n * 7) = opsArr (List.replicate n OpV.zero) := by
  apply Array.ext_getElem?
  intro p
  by_cases hp : p < n * 7
  · obtain ⟨k, f, rfl, hf⟩ : ∃ k f, p = k * 7 + f ∧ f < 7 := ⟨p / 7, p % 7, by omega, by omega⟩
    rw [opsArr_get (l := List.replicate n OpV.zero) (by rw [List.length_replicate]; omega) hf, List.getElem_replicate]
    simp only [madeCells, Array.getElem?_map]
    rw [Array.getElem?_eq_getElem (by simpa using hp)]
    simp only [Option.map_some, Array.getElem_range]
    have e : (k * 7 + f) % 7 = f := by omega
    show some (#[Value.int .i64 0, .int .i64 0, .int .i64 0, .int .i64 0, .int .i64 0, .string ⟨#[]⟩, .string ⟨#[]⟩][(k * 7 + f) % 7]!) = _
    rw [e]
    match f, hf with
    | 0, _ => rfl
    | 1, _ => rfl
    | 2, _ => rfl
    | 3, _ => rfl
    | 4, _ => rfl
    | 5, _ => rfl
    | 6, _ => rfl
  · rw [Array.getElem?_eq_none (by rw [size_madeCells]; omega), Array.getElem?_eq_none (by rw [opsArr_size]; simp; omega)]
theorem infoOp : (Try.prog.info? 40).map (fun i => (i.zero, i.size, i.bytes)) = some (some (.agg #[.int .i64 0, .int .i64 0, .int .i64 0, .int .i64 0, .int .i64 0, .string ⟨#[]⟩, .string ⟨#[]⟩]), 7, 72) := by kernel_rfl
theorem make_ops (n : Nat) (hn : n ≤ 1048576) (w : World) : (Instr.makeSlice 23 (.int .i64 (n : Int)) (.int .i64 (n : Int))).run Try.prog w = .ok (.slice (some ⟨w.heap.size, 0, none⟩) n n) (w.alloc (.cells (opsArr (List.replicate n OpV.zero)) 40)) := by
  obtain ⟨i, hi, hz⟩ := Option.map_eq_some_iff.1 infoOp
  simp only [Prod.mk.injEq] at hz
  obtain ⟨hz, hs, hb⟩ := hz
  have h := run_make (P := Try.prog) w 23 40 i _ Try.underlying23 hi hz .i64 .i64 n n (by omega) (by omega) (by rw [hb]; omega) (by omega)
  simp only [Int.toNat_natCast, hs] at h
  rw [← made_ops n]
  exact h
end Go.Proofs.Ytlphcbgeagmopaa.OpR
