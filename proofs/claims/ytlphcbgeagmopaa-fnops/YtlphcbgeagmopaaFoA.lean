/- Proves what the harness does with ops: sizes, copies, comparisons. Proves what laws.markText tells: one text a number. Proves what the harness' marks do to a row of ops. A row of ops in which ops are stored, and where it stands when its first ops have been looked at. Proves what impl.onceEach makes of a row of ops: one of each stamp, in the row's own memory. Proves what the harness does with rows of ops: copies, comparisons, marks. Proves what strings.Clone tells of a text: the same text, in new memory. Proves what impl.ownOps makes of ops: the same ops, in new memory down to the texts. Proves what impl.LogAdd tells. -/
import Derived.Test.YtlphcbgeagmopaaOpM
import Derived.Lib.ConvBytes
import Derived.Test.YtlphcbgeagmopaaOpL
import Derived.Test.YtlphcbgeagmopaaSortM
import Derived.Test.YtlphcbgeagmopaaIOp
import Derived.Test.YtlphcbgeagmopaaRowO
import Derived.Test.YtlphcbgeagmopaaNeqOp
import Derived.Test.YtlphcbgeagmopaaJoin
import Derived.Lib.UnsafeStr
import Derived.Test.YtlphcbgeagmopaaSLog
import Derived.Test.YtlphcbgeagmopaaIOps
namespace Go.Proofs.Ytlphcbgeagmopaa.OpR
open Go.ChangeShapes Go.WideShapes Go.ChangeAt Go.RowKit
set_option linter.unusedVariables false

end Go.Proofs.Ytlphcbgeagmopaa.OpR
namespace Go.Proofs.Ytlphcbgeagmopaa.OpR
open Go.ChangeShapes Go.WideShapes Go.ChangeAt Go.RowKit
set_option linter.unusedVariables false

def digB (k : Nat) : ByteArray := ⟨#[UInt8.ofNat (48 + k % 10)]⟩
def dig : Nat → Nat → ByteArray → ByteArray
  | 0, _, out => out
  | f + 1, k, out => if k = 0 then out else dig f (k / 10) (digB k ++ out)
theorem dig_end {f : Nat} {out : ByteArray} : dig f 0 out = out := by cases f <;> simp [dig]
theorem dig_more {f k : Nat} {out : ByteArray} (h : ¬ k = 0) : dig (f + 1) k out = dig f (k / 10) (digB k ++ out) := if_neg h
theorem dig_fuel : ∀ (f g k : Nat) (out : ByteArray), k ≤ f → k ≤ g → dig f k out = dig g k out
  | 0, g, k, out, h1, h2 => by obtain rfl : k = 0 := by omega
                               rw [dig_end, dig_end]
  | f + 1, 0, k, out, h1, h2 => by obtain rfl : k = 0 := by omega
                                   rw [dig_end, dig_end]
  | f + 1, g + 1, k, out, h1, h2 => by
    by_cases h : k = 0
    · subst h; rw [dig_end, dig_end]
    · rw [dig_more h, dig_more h, dig_fuel f g (k / 10) _ (by omega) (by omega)]
theorem dig_step {k : Nat} {out : ByteArray} (h : ¬ k = 0) : dig k k out = dig (k / 10) (k / 10) (digB k ++ out) := by
  obtain ⟨f, rfl⟩ : ∃ f, k = f + 1 := ⟨k - 1, by omega⟩
  rw [dig_more h, dig_fuel f ((f + 1) / 10) _ _ (by omega) (Nat.le_refl _)]
/-- The text of a number. -/
def mt (k : Nat) : ByteArray := ⟨#[109]⟩ ++ dig k k ⟨#[]⟩

theorem conv1 (w : World) (T : TypeId) (x : Int) :
    (convert 22 9 (.slice (some ⟨w.heap.size, 0, none⟩) 1 1)).run Try.prog (w.alloc (.cells #[.int .u8 x] T)) = .ok (.string ⟨#[UInt8.ofNat x.toNat]⟩) (w.alloc (.cells #[.int .u8 x] T)) := by
  rw [run_convert_bytes_string _ 22 9 5 _ 1 1 Try.underlying22 Try.underlying5 Try.underlying9]
  have hl := run_loadCells_list (P := Try.prog) (w.alloc (.cells #[.int .u8 x] T)) ⟨w.heap.size, 0, none⟩ ([x].map (Value.int .u8)) (fun j v hj => by
    rw [Addr.add_lit, Nat.zero_add, World.cell?_alloc_at _ _ _ _ rfl]
    simpa using hj)
  rw [run_bytesToString _ ⟨w.heap.size, 0, none⟩ 1 1 [x] hl]
  rfl

end Go.Proofs.Ytlphcbgeagmopaa.OpR
namespace Go.Proofs.Ytlphcbgeagmopaa.OpR
open Go.ChangeShapes Go.WideShapes Go.ChangeAt Go.RowKit
set_option linter.unusedVariables false

/-- An op that is marked from k on. -/
def mk (k : Nat) : OpV := ⟨(k : Int), (k : Int) + 1, (k : Int) + 1 + 1, (k : Int) + 1 + 1 + 1, (k : Int) + 1 + 1 + 1 + 1, mt (k + 5), mt (k + 6)⟩
def marks (k n : Nat) : List OpV := (List.range n).map fun j => mk (k + 7 * j)
theorem marks_len (k n : Nat) : (marks k n).length = n := by simp [marks]
theorem marks_get {k n j : Nat} (h : j < (marks k n).length) : (marks k n)[j] = mk (k + 7 * j) := by simp [marks]

/-- A block of cells, none frozen. -/
def RowB (w : World) (b : Nat) (T : TypeId) (n : Nat) : Prop := ∃ cs, w.heap[b]? = some (.cells cs T (0, 0)) ∧ cs.size = n
theorem RowB.lt {w : World} {b : Nat} {T : TypeId} {n : Nat} (h : RowB w b T n) : b < w.heap.size := by
  obtain ⟨cs, e, _⟩ := h
  exact (Array.getElem?_eq_some_iff.1 e).1
theorem RowB.cell {w : World} {b : Nat} {T : TypeId} {n : Nat} (h : RowB w b T n) {i : Nat} (hi : i < n) : ∃ v, w.cell? ⟨b, i, none⟩ = some v := by
  obtain ⟨cs, e, rfl⟩ := h
  exact ⟨cs[i], by simp [World.cell?, e, hi]⟩
theorem RowB.free {w : World} {b : Nat} {T : TypeId} {n : Nat} (h : RowB w b T n) (i : Nat) : w.frozen? ⟨b, i, none⟩ = false := by
  obtain ⟨cs, e, _⟩ := h
  simp [World.frozen?, e]
theorem RowB.set {w : World} {b : Nat} {T : TypeId} {n : Nat} (h : RowB w b T n) (i : Nat) (v : Value) : RowB (w.setCell ⟨b, i, none⟩ v) b T n := by
  obtain ⟨cs, e, rfl⟩ := h
  exact ⟨_, set_block e i v, by simp⟩
theorem RowB.below {w w' : World} {b : Nat} {T : TypeId} {n : Nat} (h : RowB w b T n) (hb : Below w.heap.size w w') : RowB w' b T n := by
  have hlt := h.lt
  obtain ⟨cs, e, hn⟩ := h
  exact ⟨cs, (hb.block b hlt).trans e, hn⟩
theorem OpAt.other {w : World} {b p q : Nat} {o : OpV} {v : Value} (h : OpAt w b p o) (hne : q < p ∨ p + 7 ≤ q) : OpAt (w.setCell ⟨b, q, none⟩ v) b p o := by
  obtain ⟨h0, h1, h2, h3, h4, h5, h6⟩ := h
  have e : ∀ i, i < 7 → (w.setCell ⟨b, q, none⟩ v).cell? ⟨b, p + i, none⟩ = w.cell? ⟨b, p + i, none⟩ := fun i hi => World.cell?_setCell_other w ⟨b, q, none⟩ ⟨b, p + i, none⟩ v (by intro e; injection e; omega)
  exact ⟨(e 0 (by omega)).trans h0, (e 1 (by omega)).trans h1, (e 2 (by omega)).trans h2, (e 3 (by omega)).trans h3, (e 4 (by omega)).trans h4, (e 5 (by omega)).trans h5, (e 6 (by omega)).trans h6⟩

theorem setc_same {w : World} {b N i : Nat} {T : TypeId} {v : Value} (h : RowB w b T N) (hi : i < N) : (w.setCell ⟨b, i, none⟩ v).cell? ⟨b, i, none⟩ = some v := by
  obtain ⟨u, hu⟩ := h.cell hi
  exact World.cell?_setCell_same w ⟨b, i, none⟩ v hu
theorem setc_other {w : World} {b i j : Nat} {v : Value} (h : j ≠ i) : (w.setCell ⟨b, j, none⟩ v).cell? ⟨b, i, none⟩ = w.cell? ⟨b, i, none⟩ :=
  World.cell?_setCell_other w ⟨b, j, none⟩ ⟨b, i, none⟩ v (by intro e; injection e; omega)
theorem grown_set (W : World) (b i : Nat) (v : Value) : W.grownBy (W.setCell ⟨b, i, none⟩ v) (some b) :=
  ⟨rfl, rfl, rfl, by simp, fun k hk hne => heap_setCell_other W ⟨b, i, none⟩ k v (fun e => hne (by rw [e]))⟩
theorem grown_refl (W : World) (r : Option Nat) : W.grownBy W r := ⟨rfl, rfl, rfl, Nat.le_refl _, fun _ _ _ => rfl⟩
theorem grown_trans {a b c : World} {r : Option Nat} (h : a.grownBy b r) (k : b.grownBy c r) : a.grownBy c r :=
  ⟨k.os.trans h.os, k.tape.trans h.tape, k.output.trans h.output, Nat.le_trans h.size k.size, fun i hi hn => (k.block i (Nat.lt_of_lt_of_le hi h.size) hn).trans (h.block i hi hn)⟩
theorem mk_below {a b : World} {r : Option Nat} (h : Below a.heap.size a b) : a.grownBy b r := ⟨h.os, h.tape, h.output, h.size, fun i hi _ => h.block i hi⟩

def five (wr : World) (b p : Nat) (v0 v1 v2 v3 v4 : Value) : World := ((((wr.setCell ⟨b, p, none⟩ v0).setCell ⟨b, p + 1, none⟩ v1).setCell ⟨b, p + 2, none⟩ v2).setCell ⟨b, p + 3, none⟩ v3).setCell ⟨b, p + 4, none⟩ v4
theorem five_row {wr : World} {b p N : Nat} {T : TypeId} {v0 v1 v2 v3 v4 : Value} (h : RowB wr b T N) : RowB (five wr b p v0 v1 v2 v3 v4) b T N := ((((h.set _ _).set _ _).set _ _).set _ _).set _ _
theorem five_grown {wr : World} {b p : Nat} {v0 v1 v2 v3 v4 : Value} : wr.grownBy (five wr b p v0 v1 v2 v3 v4) (some b) :=
  grown_trans (grown_trans (grown_trans (grown_trans (grown_set _ _ _ _) (grown_set _ _ _ _)) (grown_set _ _ _ _)) (grown_set _ _ _ _)) (grown_set _ _ _ _)
theorem five_cell {wr : World} {b p N : Nat} {T : TypeId} {v0 v1 v2 v3 v4 : Value} (h : RowB wr b T N) (hp : p + 5 ≤ N) :
    (five wr b p v0 v1 v2 v3 v4).cell? ⟨b, p, none⟩ = some v0 ∧ (five wr b p v0 v1 v2 v3 v4).cell? ⟨b, p + 1, none⟩ = some v1 ∧ (five wr b p v0 v1 v2 v3 v4).cell? ⟨b, p + 2, none⟩ = some v2 ∧ (five wr b p v0 v1 v2 v3 v4).cell? ⟨b, p + 3, none⟩ = some v3 ∧ (five wr b p v0 v1 v2 v3 v4).cell? ⟨b, p + 4, none⟩ = some v4 := by
  unfold five
  refine ⟨?_, ?_, ?_, ?_, ?_⟩
  · rw [setc_other (by omega), setc_other (by omega), setc_other (by omega), setc_other (by omega), setc_same h (by omega)]
  · rw [setc_other (by omega), setc_other (by omega), setc_other (by omega), setc_same (h.set _ _) (by omega)]
  · rw [setc_other (by omega), setc_other (by omega), setc_same ((h.set _ _).set _ _) (by omega)]
  · rw [setc_other (by omega), setc_same (((h.set _ _).set _ _).set _ _) (by omega)]
  · rw [setc_same ((((h.set _ _).set _ _).set _ _).set _ _) (by omega)]
theorem five_other {wr : World} {b p q : Nat} {o : OpV} {v0 v1 v2 v3 v4 : Value} (h : OpAt wr b q o) (hn : q + 7 ≤ p ∨ p + 7 ≤ q) : OpAt (five wr b p v0 v1 v2 v3 v4) b q o :=
  ((((h.other (by omega)).other (by omega)).other (by omega)).other (by omega)).other (by omega)
/-- What the seven stores of a mark leave. -/
theorem mark_done {wr w1 w2 : World} {b p N K : Nat} {T : TypeId} (h : RowB wr b T N) (hp : p + 7 ≤ N)
    (hb1 : Below (five wr b p (.int .i64 (K : Int)) (.int .i64 ((K : Int) + 1)) (.int .i64 ((K : Int) + 1 + 1)) (.int .i64 ((K : Int) + 1 + 1 + 1)) (.int .i64 ((K : Int) + 1 + 1 + 1 + 1))).heap.size (five wr b p (.int .i64 (K : Int)) (.int .i64 ((K : Int) + 1)) (.int .i64 ((K : Int) + 1 + 1)) (.int .i64 ((K : Int) + 1 + 1 + 1)) (.int .i64 ((K : Int) + 1 + 1 + 1 + 1))) w1)
    (hb2 : Below (w1.setCell ⟨b, p + 5, none⟩ (.string (mt (K + 5)))).heap.size (w1.setCell ⟨b, p + 5, none⟩ (.string (mt (K + 5)))) w2) :
    OpAt (w2.setCell ⟨b, p + 6, none⟩ (.string (mt (K + 6)))) b p (mk K) ∧ RowB (w2.setCell ⟨b, p + 6, none⟩ (.string (mt (K + 6)))) b T N ∧ wr.grownBy (w2.setCell ⟨b, p + 6, none⟩ (.string (mt (K + 6)))) (some b) ∧ ∀ q o, (q + 7 ≤ p ∨ p + 7 ≤ q) → OpAt wr b q o → OpAt (w2.setCell ⟨b, p + 6, none⟩ (.string (mt (K + 6)))) b q o := by
  have r5 := five_row (p := p) (v0 := .int .i64 (K : Int)) (v1 := .int .i64 ((K : Int) + 1)) (v2 := .int .i64 ((K : Int) + 1 + 1)) (v3 := .int .i64 ((K : Int) + 1 + 1 + 1)) (v4 := .int .i64 ((K : Int) + 1 + 1 + 1 + 1)) h
  have r1 := r5.below hb1
  have r6 := r1.set (p + 5) (.string (mt (K + 5)))
  have r2 := r6.below hb2
  obtain ⟨c0, c1, c2, c3, c4⟩ := five_cell (p := p) (v0 := .int .i64 (K : Int)) (v1 := .int .i64 ((K : Int) + 1)) (v2 := .int .i64 ((K : Int) + 1 + 1)) (v3 := .int .i64 ((K : Int) + 1 + 1 + 1)) (v4 := .int .i64 ((K : Int) + 1 + 1 + 1 + 1)) h (by omega)
  have e1 : ∀ i, w1.cell? ⟨b, i, none⟩ = (five wr b p (.int .i64 (K : Int)) (.int .i64 ((K : Int) + 1)) (.int .i64 ((K : Int) + 1 + 1)) (.int .i64 ((K : Int) + 1 + 1 + 1)) (.int .i64 ((K : Int) + 1 + 1 + 1 + 1))).cell? ⟨b, i, none⟩ := fun i => hb1.cell r5.lt
  have e2 : ∀ i, w2.cell? ⟨b, i, none⟩ = (w1.setCell ⟨b, p + 5, none⟩ (.string (mt (K + 5)))).cell? ⟨b, i, none⟩ := fun i => hb2.cell r6.lt
  refine ⟨⟨?_, ?_, ?_, ?_, ?_, ?_, ?_⟩, r2.set _ _, ?_, fun q o hn ho => ?_⟩
  · rw [setc_other (by omega), e2, setc_other (by omega), e1, c0]; rfl
  · rw [setc_other (by omega), e2, setc_other (by omega), e1, c1]; rfl
  · rw [setc_other (by omega), e2, setc_other (by omega), e1, c2]; rfl
  · rw [setc_other (by omega), e2, setc_other (by omega), e1, c3]; rfl
  · rw [setc_other (by omega), e2, setc_other (by omega), e1, c4]; rfl
  · rw [setc_other (by omega), e2, setc_same r1 (by omega)]; rfl
  · rw [setc_same r2 (by omega)]; rfl
  · exact grown_trans (grown_trans (grown_trans (grown_trans five_grown (mk_below hb1)) (grown_set _ _ _ _)) (mk_below hb2)) (grown_set _ _ _ _)
  · exact ((((five_other ho hn).block (hb1.block b r5.lt)).other (by omega)).block (hb2.block b r6.lt)).other (by omega)

end Go.Proofs.Ytlphcbgeagmopaa.OpR
namespace Go.Proofs.Ytlphcbgeagmopaa.OpR
open Go.ChangeShapes Go.WideShapes Go.ChangeAt Go.RowKit
set_option linter.unusedVariables false

/-- A world behind calls, in which a variable that holds an op still lies at g. -/
structure VarO (B : Nat) (w c : World) (g : Nat) (T : TypeId) (o : OpV) : Prop where
  below : Below B w c
  lies : c.heap[g]? = some (.cells #[.int .i64 o.time, .int .i64 o.repl, .int .i64 o.kind, .int .i64 o.node, .int .i64 o.parent, .string o.name, .string o.value] T (0, 0))
theorem VarO.step {B : Nat} {w c c' : World} {g : Nat} {T : TypeId} {o : OpV} (h : VarO B w c g T o) (hb : Below c.heap.size c c') (hB : B ≤ c.heap.size) : VarO B w c' g T o :=
  ⟨h.below.trans (hb.mono hB), (hb.block _ (Array.getElem?_eq_some_iff.1 h.lies).1).trans h.lies⟩
theorem VarO.cells {B : Nat} {w c : World} {g : Nat} {T : TypeId} {o : OpV} (h : VarO B w c g T o) : c.cell? ⟨g, 0, none⟩ = some (.int .i64 o.time) ∧ c.cell? ⟨g, 1, none⟩ = some (.int .i64 o.repl) ∧ c.cell? ⟨g, 2, none⟩ = some (.int .i64 o.kind) ∧ c.cell? ⟨g, 3, none⟩ = some (.int .i64 o.node) ∧ c.cell? ⟨g, 4, none⟩ = some (.int .i64 o.parent) ∧ c.cell? ⟨g, 5, none⟩ = some (.string o.name) ∧ c.cell? ⟨g, 6, none⟩ = some (.string o.value) := by
  have e := h.lies
  refine ⟨?_, ?_, ?_, ?_, ?_, ?_, ?_⟩ <;> simp [World.cell?, e]
/-- The store of an op. -/
def seven (w : World) (g p : Nat) (o : OpV) : World := ((((((w.setCell ⟨g, p, none⟩ (.int .i64 o.time)).setCell ⟨g, p + 1, none⟩ (.int .i64 o.repl)).setCell ⟨g, p + 2, none⟩ (.int .i64 o.kind)).setCell ⟨g, p + 3, none⟩ (.int .i64 o.node)).setCell ⟨g, p + 4, none⟩ (.int .i64 o.parent)).setCell ⟨g, p + 5, none⟩ (.string o.name)).setCell ⟨g, p + 6, none⟩ (.string o.value)
theorem seven_row {w : World} {g p N : Nat} {T : TypeId} {o : OpV} (h : RowB w g T N) : RowB (seven w g p o) g T N := ((((((h.set _ _).set _ _).set _ _).set _ _).set _ _).set _ _).set _ _
theorem seven_grown {w : World} {g p : Nat} {o : OpV} : w.grownBy (seven w g p o) (some g) :=
  grown_trans (grown_trans (grown_trans (grown_trans (grown_trans (grown_trans (grown_set _ _ _ _) (grown_set _ _ _ _)) (grown_set _ _ _ _)) (grown_set _ _ _ _)) (grown_set _ _ _ _)) (grown_set _ _ _ _)) (grown_set _ _ _ _)
theorem seven_at {w : World} {g p N : Nat} {T : TypeId} {o : OpV} (h : RowB w g T N) (hp : p + 7 ≤ N) : OpAt (seven w g p o) g p o := by
  unfold seven
  refine ⟨?_, ?_, ?_, ?_, ?_, ?_, ?_⟩
  · rw [setc_other (by omega), setc_other (by omega), setc_other (by omega), setc_other (by omega), setc_other (by omega), setc_other (by omega), setc_same h (by omega)]
  · rw [setc_other (by omega), setc_other (by omega), setc_other (by omega), setc_other (by omega), setc_other (by omega), setc_same (h.set _ _) (by omega)]
  · rw [setc_other (by omega), setc_other (by omega), setc_other (by omega), setc_other (by omega), setc_same ((h.set _ _).set _ _) (by omega)]
  · rw [setc_other (by omega), setc_other (by omega), setc_other (by omega), setc_same (((h.set _ _).set _ _).set _ _) (by omega)]
  · rw [setc_other (by omega), setc_other (by omega), setc_same ((((h.set _ _).set _ _).set _ _).set _ _) (by omega)]
  · rw [setc_other (by omega), setc_same (((((h.set _ _).set _ _).set _ _).set _ _).set _ _) (by omega)]
  · rw [setc_same ((((((h.set _ _).set _ _).set _ _).set _ _).set _ _).set _ _) (by omega)]
theorem seven_other {w : World} {g p q : Nat} {o x : OpV} (h : OpAt w g q x) (hn : q + 7 ≤ p ∨ p + 7 ≤ q) : OpAt (seven w g p o) g q x :=
  ((((((h.other (by omega)).other (by omega)).other (by omega)).other (by omega)).other (by omega)).other (by omega)).other (by omega)
theorem seven_ops {w : World} {g k N : Nat} {T : TypeId} {o : OpV} {cur : List OpV} (h : OpsAt w (some ⟨g, 0, none⟩) cur) (hR : RowB w g T N) (hN : k * 7 + 7 ≤ N) : OpsAt (seven w g (k * 7) o) (some ⟨g, 0, none⟩) (cur.set k o) := fun j hj => by
  rw [List.length_set] at hj
  refine ⟨g, 0, rfl, (seven_row hR).lt, ?_⟩
  rw [Nat.zero_add]
  by_cases e : j = k
  · subst e
    rw [List.getElem_set_self]
    exact seven_at hR hN
  · rw [List.getElem_set_ne (fun e' => e e'.symm)]
    exact seven_other (h.at0 hj) (by omega)
/-- Where a row stands when its first ops have been looked at. -/
structure Look (w wr : World) (g cap i : Nat) (m K cur : List OpV) : Prop where
  ile : i ≤ m.length
  kle : K.length ≤ i
  len : cur.length = m.length
  take : cur.take K.length = K
  drop : cur.drop i = m.drop i
  lies : OpsAt wr (some ⟨g, 0, none⟩) cur
  row : RowB wr g 40 (cap * 7)
  same : once K (m.drop i) = once [] m
  grown : w.grownBy wr (some g)
theorem Look.cur_at {w wr : World} {g cap i : Nat} {m K cur : List OpV} (h : Look w wr g cap i m K cur) (hi : i < m.length) : ∃ hc : i < cur.length, cur[i] = m[i] := by
  have hc : i < cur.length := by rw [h.len]; exact hi
  refine ⟨hc, ?_⟩
  have e := h.drop
  rw [List.drop_eq_getElem_cons hc, List.drop_eq_getElem_cons hi] at e
  injection e
theorem Look.last {w wr : World} {g cap i n : Nat} {m K cur : List OpV} (h : Look w wr g cap i m K cur) (hn : K.length = n + 1) : ∃ hc : n < cur.length, K.getLast? = some cur[n] := by
  have hc : n < cur.length := by have := h.ile; have := h.kle; have := h.len; omega
  refine ⟨hc, ?_⟩
  have e : K = cur.take (n + 1) := by rw [← hn]; exact h.take.symm
  rw [e, List.getLast?_eq_getElem?, List.length_take, Nat.min_eq_left (by omega), Nat.add_sub_cancel, List.getElem?_take_of_lt (by omega), List.getElem?_eq_getElem hc]
theorem Look.skip {w wr wr' : World} {g cap i : Nat} {m K cur : List OpV} (h : Look w wr g cap i m K cur) (hi : i < m.length) (hb : Below wr.heap.size wr wr') (hs : once K (m.drop i) = once K (m.drop (i + 1))) : Look w wr' g cap (i + 1) m K cur :=
  ⟨by omega, by have := h.kle; omega, h.len, h.take, by rw [← List.drop_drop, h.drop, List.drop_drop], h.lies.stays hb, h.row.below hb, hs.symm.trans h.same, grown_trans h.grown (mk_below hb)⟩
theorem Look.keep {w wr wr' : World} {g cap i : Nat} {m K cur : List OpV} (h : Look w wr g cap i m K cur) (hi : i < m.length) (hcap : m.length ≤ cap) (hb : Below wr.heap.size wr wr') (hs : once K (m.drop i) = once (K ++ [m[i]]) (m.drop (i + 1))) : Look w (seven wr' g (K.length * 7) m[i]) g cap (i + 1) m (K ++ [m[i]]) (cur.set K.length m[i]) := by
  have hkl := h.kle
  have hlen := h.len
  refine ⟨by omega, by simp; omega, by rw [List.length_set]; exact h.len, ?_, ?_, seven_ops (h.lies.stays hb) (h.row.below hb) (by omega), seven_row (h.row.below hb), hs.symm.trans h.same, grown_trans (grown_trans h.grown (mk_below hb)) seven_grown⟩
  · rw [List.length_append, List.length_singleton, List.take_add_one, List.getElem?_set_self (by omega), List.take_set_of_le (Nat.le_refl _), h.take]
    rfl
  · rw [List.drop_set_of_lt (by omega), ← List.drop_drop, h.drop, List.drop_drop]

end Go.Proofs.Ytlphcbgeagmopaa.OpR
namespace Go.Proofs.Ytlphcbgeagmopaa.OpR
open Go.ChangeShapes Go.WideShapes Go.ChangeAt Go.RowKit
set_option linter.unusedVariables false

set_option maxRecDepth 100000 in
set_option maxHeartbeats 1000000 in
theorem once_any (m : List OpV) (g cap : Nat) (w : World) (hm : m.length ≤ 800) (hc : m.length ≤ cap) (hR : RowB w g 40 (cap * 7)) (hA : OpsAt w (some ⟨g, 0, none⟩) m) :
    Calls Try.prog 45 #[.slice (some ⟨g, 0, none⟩) m.length cap] w fun e w' => w.grownBy w' (some g) ∧ ((∃ k, once [] m = some k ∧ e = .returned (.tuple #[.slice (some ⟨g, 0, none⟩) k.length k.length, .bool true]) ∧ OpsAt w' (some ⟨g, 0, none⟩) k) ∨ (once [] m = none ∧ e = .returned (.tuple #[.slice none 0 0, .bool false]))) := by
  have HR : Hid (RowB w g 40 (cap * 7)) := ⟨hR⟩
  have HA : Hid (OpsAt w (some ⟨g, 0, none⟩) m) := ⟨hA⟩
  clear hR hA
  go_enter Try.func45, Try.ntmps45
  go_wp2
  go_loopw [4, 9] (fun kv iv wr => ∃ i K cur, kv = .int .i64 ((List.length K : Nat) : Int) ∧ iv = .int .i64 ((i : Nat) : Int) ∧ Look w wr g cap i m K cur) (fun _ iv _ => m.length - (intOf iv).toNat)
  case atStart => exact ⟨0, [], m, rfl, rfl, ⟨by omega, by simp, rfl, by simp, rfl, HA.out, HR.out, rfl, grown_refl _ _⟩⟩
  case round =>
    obtain ⟨i, K, cur, rfl, rfl, hL⟩ := hrel
    have HL : Hid (Look w wr g cap i m K cur) := ⟨hL⟩
    have hile := hL.ile
    have hkle := hL.kle
    by_cases h : i < m.length
    · obtain ⟨hci, hcv⟩ := hL.cur_at h
      obtain ⟨o, ho⟩ : ∃ o, m[i] = o := ⟨_, rfl⟩
      have HOo : Hid (m[i] = o) := ⟨ho⟩
      have hat := hL.lies.at0 hci
      rw [hcv, ho] at hat
      obtain ⟨c0, c1, c2, c3, c4, c5, c6⟩ := hat
      have hdr : m.drop i = o :: m.drop (i + 1) := by rw [List.drop_eq_getElem_cons h, ho]
      have HDr : Hid (m.drop i = o :: m.drop (i + 1)) := ⟨hdr⟩
      have hglt := hL.row.lt
      have hQ : VarO wr.heap.size wr (wr.alloc (.cells #[.int .i64 o.time, .int .i64 o.repl, .int .i64 o.kind, .int .i64 o.node, .int .i64 o.parent, .string o.name, .string o.value] 40)) wr.heap.size 40 o := ⟨(Below.refl _ _).alloc (Nat.le_refl _) _, heap_alloc_new wr _⟩
      have hQd := hQ.step (Below.refl _ _).drew (by simp)
      have hi0 : (0 : Int) ≤ (i : Int) := by omega
      have hi1 : (i : Int) < (m.length : Int) := by omega
      clear hL hcv ho hdr
      by_cases hK : K.length = 0
      · obtain rfl := List.eq_nil_of_length_eq_zero hK
        obtain ⟨X, hX⟩ : ∃ X, X = (wr.alloc (.cells #[.int .i64 o.time, .int .i64 o.repl, .int .i64 o.kind, .int .i64 o.node, .int .i64 o.parent, .string o.name, .string o.value] 40)).drew := ⟨_, rfl⟩
        have hQX : VarO wr.heap.size wr X wr.heap.size 40 o := by rw [hX]; exact hQd
        have HNew : Hid (Look w (seven X g (([] : List OpV).length * 7) o) g cap (i + 1) m [o] (cur.set 0 o)) := ⟨by
          have h1 := HL.out.keep h hc hQX.below (by rw [HDr.out, HOo.out]; rfl)
          rw [HOo.out] at h1
          exact h1⟩
        clear hQ hQd hkle hK
        have hm0 : (0 : Int) < (m.length : Int) := by omega
        rw [show ((([] : List OpV).length : Nat) : Int) = 0 from rfl]
        go_wp2
        go_region
        rw [← hX]
        clear hX c0 c1 c2 c3 c4 c5 c6
        have RW := HL.out.row.below hQX.below
        obtain ⟨v0, d0⟩ := RW.cell (i := 0) (by omega)
        obtain ⟨v1, d1⟩ := RW.cell (i := 1) (by omega)
        obtain ⟨v2, d2⟩ := RW.cell (i := 2) (by omega)
        obtain ⟨v3, d3⟩ := RW.cell (i := 3) (by omega)
        obtain ⟨v4, d4⟩ := RW.cell (i := 4) (by omega)
        obtain ⟨v5, d5⟩ := RW.cell (i := 5) (by omega)
        obtain ⟨v6, d6⟩ := RW.cell (i := 6) (by omega)
        have f0 := RW.free (0)
        have f1 := RW.free (1)
        have f2 := RW.free (2)
        have f3 := RW.free (3)
        have f4 := RW.free (4)
        have f5 := RW.free (5)
        have f6 := RW.free (6)
        obtain ⟨k0, k1, k2, k3, k4, k5, k6⟩ := hQX.cells
        clear hQX RW
        go_wp2
        go_roundw
        case rel => exact ⟨i + 1, [o], cur.set 0 o, rfl, by go_num, HNew.out⟩
        case measure => simp [intOf]; omega
      · obtain ⟨n, hn⟩ : ∃ n, K.length = n + 1 := ⟨K.length - 1, by omega⟩
        obtain ⟨hcn, hlast⟩ := HL.out.last hn
        obtain ⟨x, hx⟩ : ∃ x, cur[n] = x := ⟨_, rfl⟩
        have hxat : OpAt wr g (n * 7) x := by rw [← hx]; exact HL.out.lies.at0 hcn
        rw [hx] at hlast
        have HX : Hid (OpAt wr g (n * 7) x) := ⟨hxat⟩
        have HLast : Hid (K.getLast? = some x) := ⟨hlast⟩
        have HN : Hid (K.length = n + 1) := ⟨hn⟩
        have hT : (((n : Int) + 1).toNat) = n + 1 := by omega
        have hn0 : (0 : Int) ≤ (n : Int) := by omega
        have hn1 : (n : Int) < (m.length : Int) := by omega
        have hn2 : (0 : Int) ≤ (n : Int) + 1 := by omega
        have hn3 : (n : Int) + 1 < (m.length : Int) := by omega
        have hne1 : ((n : Int) + 1 == 0) = false := by simp; omega
        have hne2 : ¬ ((n : Int) + 1 = 0) := by omega
        have hW : IntKind.i64.wrap (n : Int) = (n : Int) := by rw [IntKind.wrap_i64]; omega
        have hW2 : wrap64 (n : Int) = (n : Int) := by unfold wrap64; omega
        have hcall := fun W => iAhead_any x o W
        unfold OpV.agg at hcall
        rw [show ((K.length : Nat) : Int) = (n : Int) + 1 by omega]
        clear hx hxat hlast hK hn
        go_wp2
        clear c0 c1 c2 c3 c4 c5 c6
        obtain ⟨c0, c1, c2, c3, c4, c5, c6⟩ := HX.out.block (hQd.below.block g hglt)
        obtain ⟨k0, k1, k2, k3, k4, k5, k6⟩ := hQd.cells
        cases ha : ahead x o
        · rw [ha] at hcall
          go_region_held3 (fun w' => w'.cell? ⟨g, n * 7, none⟩ = some (.int .i64 x.time) ∧ w'.cell? ⟨g, n * 7 + 1, none⟩ = some (.int .i64 x.repl) ∧ w'.cell? ⟨g, n * 7 + 2, none⟩ = some (.int .i64 x.kind) ∧ w'.cell? ⟨g, n * 7 + 3, none⟩ = some (.int .i64 x.node) ∧ w'.cell? ⟨g, n * 7 + 4, none⟩ = some (.int .i64 x.parent) ∧ w'.cell? ⟨g, n * 7 + 5, none⟩ = some (.string x.name) ∧ w'.cell? ⟨g, n * 7 + 6, none⟩ = some (.string x.value) ∧ w'.cell? ⟨wr.heap.size, 0, none⟩ = some (.int .i64 o.time) ∧ w'.cell? ⟨wr.heap.size, 1, none⟩ = some (.int .i64 o.repl) ∧ w'.cell? ⟨wr.heap.size, 2, none⟩ = some (.int .i64 o.kind) ∧ w'.cell? ⟨wr.heap.size, 3, none⟩ = some (.int .i64 o.node) ∧ w'.cell? ⟨wr.heap.size, 4, none⟩ = some (.int .i64 o.parent) ∧ w'.cell? ⟨wr.heap.size, 5, none⟩ = some (.string o.name) ∧ w'.cell? ⟨wr.heap.size, 6, none⟩ = some (.string o.value)) (exact ⟨c0, c1, c2, c3, c4, c5, c6, k0, k1, k2, k3, k4, k5, k6⟩) (first | (go_at_call 48; refine (hcall _).mono ?_; rintro e x1 ⟨rfl, hx1⟩; have hQ1 := hQd.step hx1 (by have := hQd.below.size; omega); obtain ⟨c0, c1, c2, c3, c4, c5, c6⟩ := HX.out.block (hQ1.below.block g hglt); obtain ⟨k0, k1, k2, k3, k4, k5, k6⟩ := hQ1.cells))
          clear hcall
          clear hQ hQd
          have hneq := neq_ops x o
          unfold OpV.agg at hneq
          by_cases he : x = o
          · rw [same_true he] at hneq
            have HSame : Hid (once K (m.drop i) = once K (m.drop (i + 1))) := ⟨by rw [HDr.out, once_same (by rw [HLast.out, he])]⟩
            clear he
            go_wp2
            go_region_held3 (fun w' => w'.cell? ⟨g, n * 7, none⟩ = some (.int .i64 x.time) ∧ w'.cell? ⟨g, n * 7 + 1, none⟩ = some (.int .i64 x.repl) ∧ w'.cell? ⟨g, n * 7 + 2, none⟩ = some (.int .i64 x.kind) ∧ w'.cell? ⟨g, n * 7 + 3, none⟩ = some (.int .i64 x.node) ∧ w'.cell? ⟨g, n * 7 + 4, none⟩ = some (.int .i64 x.parent) ∧ w'.cell? ⟨g, n * 7 + 5, none⟩ = some (.string x.name) ∧ w'.cell? ⟨g, n * 7 + 6, none⟩ = some (.string x.value) ∧ w'.cell? ⟨wr.heap.size, 0, none⟩ = some (.int .i64 o.time) ∧ w'.cell? ⟨wr.heap.size, 1, none⟩ = some (.int .i64 o.repl) ∧ w'.cell? ⟨wr.heap.size, 2, none⟩ = some (.int .i64 o.kind) ∧ w'.cell? ⟨wr.heap.size, 3, none⟩ = some (.int .i64 o.node) ∧ w'.cell? ⟨wr.heap.size, 4, none⟩ = some (.int .i64 o.parent) ∧ w'.cell? ⟨wr.heap.size, 5, none⟩ = some (.string o.name) ∧ w'.cell? ⟨wr.heap.size, 6, none⟩ = some (.string o.value)) (exact ⟨c0, c1, c2, c3, c4, c5, c6, k0, k1, k2, k3, k4, k5, k6⟩) (fail)
            clear hW hW2
            go_wp2
            go_roundw
            case rel => exact ⟨i + 1, K, cur, by rw [HN.out]; rfl, by go_num, HL.out.skip h hQ1.below.drew HSame.out⟩
            case measure => simp [intOf]; omega
          · rw [same_false he] at hneq
            have HNone : Hid (once [] m = none) := ⟨by rw [← HL.out.same, HDr.out, once_wrong HLast.out ha he]⟩
            clear he
            go_wp2
            go_region_held3 (fun w' => w'.cell? ⟨g, n * 7, none⟩ = some (.int .i64 x.time) ∧ w'.cell? ⟨g, n * 7 + 1, none⟩ = some (.int .i64 x.repl) ∧ w'.cell? ⟨g, n * 7 + 2, none⟩ = some (.int .i64 x.kind) ∧ w'.cell? ⟨g, n * 7 + 3, none⟩ = some (.int .i64 x.node) ∧ w'.cell? ⟨g, n * 7 + 4, none⟩ = some (.int .i64 x.parent) ∧ w'.cell? ⟨g, n * 7 + 5, none⟩ = some (.string x.name) ∧ w'.cell? ⟨g, n * 7 + 6, none⟩ = some (.string x.value) ∧ w'.cell? ⟨wr.heap.size, 0, none⟩ = some (.int .i64 o.time) ∧ w'.cell? ⟨wr.heap.size, 1, none⟩ = some (.int .i64 o.repl) ∧ w'.cell? ⟨wr.heap.size, 2, none⟩ = some (.int .i64 o.kind) ∧ w'.cell? ⟨wr.heap.size, 3, none⟩ = some (.int .i64 o.node) ∧ w'.cell? ⟨wr.heap.size, 4, none⟩ = some (.int .i64 o.parent) ∧ w'.cell? ⟨wr.heap.size, 5, none⟩ = some (.string o.name) ∧ w'.cell? ⟨wr.heap.size, 6, none⟩ = some (.string o.value)) (exact ⟨c0, c1, c2, c3, c4, c5, c6, k0, k1, k2, k3, k4, k5, k6⟩) (fail)
            go_wp2
            go_ret2
            exact ⟨grown_trans HL.out.grown (mk_below hQ1.below.drew), .inr ⟨HNone.out, rfl⟩⟩
        · rw [ha] at hcall
          go_region_held3 (fun w' => w'.cell? ⟨g, n * 7, none⟩ = some (.int .i64 x.time) ∧ w'.cell? ⟨g, n * 7 + 1, none⟩ = some (.int .i64 x.repl) ∧ w'.cell? ⟨g, n * 7 + 2, none⟩ = some (.int .i64 x.kind) ∧ w'.cell? ⟨g, n * 7 + 3, none⟩ = some (.int .i64 x.node) ∧ w'.cell? ⟨g, n * 7 + 4, none⟩ = some (.int .i64 x.parent) ∧ w'.cell? ⟨g, n * 7 + 5, none⟩ = some (.string x.name) ∧ w'.cell? ⟨g, n * 7 + 6, none⟩ = some (.string x.value) ∧ w'.cell? ⟨wr.heap.size, 0, none⟩ = some (.int .i64 o.time) ∧ w'.cell? ⟨wr.heap.size, 1, none⟩ = some (.int .i64 o.repl) ∧ w'.cell? ⟨wr.heap.size, 2, none⟩ = some (.int .i64 o.kind) ∧ w'.cell? ⟨wr.heap.size, 3, none⟩ = some (.int .i64 o.node) ∧ w'.cell? ⟨wr.heap.size, 4, none⟩ = some (.int .i64 o.parent) ∧ w'.cell? ⟨wr.heap.size, 5, none⟩ = some (.string o.name) ∧ w'.cell? ⟨wr.heap.size, 6, none⟩ = some (.string o.value)) (exact ⟨c0, c1, c2, c3, c4, c5, c6, k0, k1, k2, k3, k4, k5, k6⟩) (first | (go_at_call 48; refine (hcall _).mono ?_; rintro e x1 ⟨rfl, hx1⟩; have hQ1 := hQd.step hx1 (by have := hQd.below.size; omega); obtain ⟨c0, c1, c2, c3, c4, c5, c6⟩ := HX.out.block (hQ1.below.block g hglt); obtain ⟨k0, k1, k2, k3, k4, k5, k6⟩ := hQ1.cells))
          clear hcall
          clear hW hW2 hne1 hne2
          have HNew : Hid (Look w (seven x1 g ((n + 1) * 7) o) g cap (i + 1) m (K ++ [o]) (cur.set (n + 1) o)) := ⟨by
            have h1 := HL.out.keep h hc hQ1.below (by rw [HDr.out, HOo.out]; exact once_more HLast.out ha)
            rw [HOo.out, HN.out] at h1
            exact h1⟩
          have RW := HL.out.row.below hQ1.below
          clear c0 c1 c2 c3 c4 c5 c6
          obtain ⟨v0, d0⟩ := RW.cell (i := (n + 1) * 7) (by omega)
          obtain ⟨v1, d1⟩ := RW.cell (i := (n + 1) * 7 + 1) (by omega)
          obtain ⟨v2, d2⟩ := RW.cell (i := (n + 1) * 7 + 2) (by omega)
          obtain ⟨v3, d3⟩ := RW.cell (i := (n + 1) * 7 + 3) (by omega)
          obtain ⟨v4, d4⟩ := RW.cell (i := (n + 1) * 7 + 4) (by omega)
          obtain ⟨v5, d5⟩ := RW.cell (i := (n + 1) * 7 + 5) (by omega)
          obtain ⟨v6, d6⟩ := RW.cell (i := (n + 1) * 7 + 6) (by omega)
          have f0 := RW.free ((n + 1) * 7)
          have f1 := RW.free ((n + 1) * 7 + 1)
          have f2 := RW.free ((n + 1) * 7 + 2)
          have f3 := RW.free ((n + 1) * 7 + 3)
          have f4 := RW.free ((n + 1) * 7 + 4)
          have f5 := RW.free ((n + 1) * 7 + 5)
          have f6 := RW.free ((n + 1) * 7 + 6)
          clear hQ hQd hQ1 RW
          go_wp2
          go_roundw
          case rel => exact ⟨i + 1, K ++ [o], cur.set (n + 1) o, by rw [List.length_append, HN.out]; go_num, by go_num, HNew.out⟩
          case measure => simp [intOf]; omega
    · obtain rfl : i = m.length := by omega
      have hk : once [] m = some K := by rw [← hL.same, List.drop_length]; rfl
      have hkl : K.length ≤ m.length := hkle
      have HK : Hid (once [] m = some K) := ⟨hk⟩
      have hsl := fun W => slice_cut W g 0 m.length cap K.length ((K.length : Nat) : Int) rfl (by omega)
      clear hL hk
      go_wp2
      go_ret2
      refine ⟨HL.out.grown, .inl ⟨K, HK.out, rfl, ?_⟩⟩
      have h1 := HL.out.lies.take K.length
      rwa [HL.out.take] at h1
end Go.Proofs.Ytlphcbgeagmopaa.OpR
namespace Go.Proofs.Ytlphcbgeagmopaa.OpR
open Go.ChangeShapes Go.WideShapes Go.ChangeAt Go.RowKit
set_option linter.unusedVariables false

/-- The first k of l, the rest zero. -/
def part (l : List OpV) (k : Nat) : List OpV := l.take k ++ List.replicate (l.length - k) OpV.zero
theorem part_len {l : List OpV} {k : Nat} (h : k ≤ l.length) : (part l k).length = l.length := by simp [part]; omega
theorem part_zero (l : List OpV) : part l 0 = List.replicate l.length OpV.zero := by simp [part]
theorem part_all (l : List OpV) : part l l.length = l := by simp [part]
theorem part_set {l : List OpV} {k : Nat} (h : k < l.length) : (part l k).set k l[k] = part l (k + 1) := by
  unfold part
  have hl : (l.take k).length = k := by rw [List.length_take]; omega
  rw [List.set_append_right _ _ (by omega), hl, Nat.sub_self, show l.length - k = (l.length - (k + 1)) + 1 by omega, List.replicate_succ, List.set_cons_zero]
  have e : l.take (k + 1) = l.take k ++ [l[k]] := by rw [List.take_add_one, List.getElem?_eq_getElem h]; rfl
  rw [e, List.append_assoc]; rfl

end Go.Proofs.Ytlphcbgeagmopaa.OpR
namespace Go.Proofs.Ytlphcbgeagmopaa.NumR
open Go.ChangeShapes Go.WideShapes Go.ChangeAt Go.RowKit
set_option linter.unusedVariables false

theorem row_full {N : Nat} {l : List UInt8} (h : l.length = N) : row N l = (cellsOf l).toArray := by
  unfold row
  rw [h, Nat.sub_self]
  simp
set_option maxRecDepth 100000 in
set_option maxHeartbeats 400000 in
theorem cloneIn_any (s : ByteArray) (w : World) (hs : s.size ≤ 1099511627776) :
    Calls Try.prog 134 #[.string s] w fun e w' => e = .returned (.string s) ∧ Below w.heap.size w w' := by
  by_cases h0 : s.size = 0
  · obtain rfl : s = ⟨#[]⟩ := ByteArray.ext (Array.eq_empty_of_size_eq_zero h0)
    go_enter Try.func134, Try.ntmps134
    go_wp2
    go_ret
    exact ⟨rfl, Below.refl _ _⟩
  · obtain ⟨N, hN⟩ : ∃ N, s.size = N := ⟨_, rfl⟩
    have hmk : ∀ w, (Instr.makeSlice 22 (.int .i64 (N : Int)) (.int .i64 (N : Int))).run Try.prog w = .ok (.slice (some ⟨w.heap.size, 0, none⟩) N N) (w.alloc (.cells (row N []) 5)) :=
      fun w => by rw [← row_made]; exact run_make_row' 22 5 (.int .u8 0) 1 Try.underlying22 info8' rfl .i64 .i64 N (by omega) (by omega) w
    have hcp : (Builtin.copy_ #[22, 9] 3 #[.slice (some ⟨w.heap.size, 0, none⟩) N N, .string s]).run Try.prog (w.alloc (.cells (row N []) 5)) = .ok (.int .i64 (N : Int)) (w.alloc (.cells (row N s.data.toList) 5)) := by
      have h := copy_row w N [] s (by simp; omega)
      have e : offOf N ([] : List UInt8).length = 0 := by unfold offOf; split <;> rfl
      rw [e, hN] at h
      simpa using h
    have hl : s.data.toList.length = N := by rw [size_list]; exact hN
    have hne : s.data.toList ≠ [] := fun e => h0 (by rw [← size_list, e]; rfl)
    have hgY : (w.alloc (.cells (row N s.data.toList) 5)).heap[w.heap.size]? = some (.cells (row N s.data.toList) 5 (0, 0)) := heap_alloc_new w _
    have hrs : (row N s.data.toList).size = N := row_size (by omega)
    have hUS := Lib.run_unsafeString_row (P := Try.prog) (w.alloc (.cells (row N s.data.toList) 5)) 183 3 9 5 Try.underlying183 (by kernel_rfl) w.heap.size N (by unfold World.shape?; rw [hgY]; simp [hrs]) s.data.toList hne (by omega) (by omega)
      (fun j x hx => by
        rw [Addr.add_lit, Nat.zero_add, World.cell?_alloc_at _ _ _ _ rfl, row_full hl]
        simp [cellsOf, hx])
    rw [hl] at hUS
    clear hgY hne hl
    go_enter Try.func134, Try.ntmps134
    go_wp2
    go_ret
    have hb1 : Below w.heap.size w (w.alloc (.cells (row N s.data.toList) 5)) := (Below.refl _ w).alloc (Nat.le_refl _) _
    exact ⟨rfl, Lib.below_freeze hb1 (p := ⟨w.heap.size, 0, none⟩) (Nat.le_refl _) _⟩
theorem clone_any (s : ByteArray) (w : World) (hs : s.size ≤ 1099511627776) :
    Calls Try.prog 106 #[.string s] w fun e w' => e = .returned (.string s) ∧ Below w.heap.size w w' := by
  have h1 := fun W => cloneIn_any s W hs
  go_enter Try.func106, Try.ntmps106
  go_wp2_with (first | (go_at_call 134; refine (h1 _).mono ?_; rintro e w1 ⟨rfl, hb1⟩))
  go_ret
  exact ⟨rfl, hb1⟩
end Go.Proofs.Ytlphcbgeagmopaa.NumR
namespace Go.Proofs.Ytlphcbgeagmopaa.OpR
open Go.ChangeShapes Go.WideShapes Go.ChangeAt Go.RowKit
set_option linter.unusedVariables false

theorem VarO.set5 {B : Nat} {w c : World} {g : Nat} {T : TypeId} {o : OpV} (h : VarO B w c g T o) (hB : B ≤ g) : VarO B w (c.setCell ⟨g, 5, none⟩ (.string o.name)) g T o :=
  ⟨h.below.setCell hB _, (set_block h.lies 5 (.string o.name)).trans rfl⟩
theorem VarO.set6 {B : Nat} {w c : World} {g : Nat} {T : TypeId} {o : OpV} (h : VarO B w c g T o) (hB : B ≤ g) : VarO B w (c.setCell ⟨g, 6, none⟩ (.string o.value)) g T o :=
  ⟨h.below.setCell hB _, (set_block h.lies 6 (.string o.value)).trans rfl⟩
theorem VarO.free {B : Nat} {w c : World} {g : Nat} {T : TypeId} {o : OpV} (h : VarO B w c g T o) (i : Nat) : c.frozen? ⟨g, i, none⟩ = false := by
  have e := h.lies
  simp [World.frozen?, e]

set_option maxRecDepth 100000 in
set_option maxHeartbeats 1000000 in
theorem own_any (l : List OpV) (ao : Option Addr) (cap : Nat) (w : World) (hl : l.length ≤ 1048576) (hA : OpsAt w ao l) (hS : ∀ o ∈ l, o.name.size ≤ 1048576 ∧ o.value.size ≤ 1048576) :
    Calls Try.prog 49 #[.slice ao l.length cap] w fun e w' => e = .returned (.slice (some ⟨w.heap.size, 0, none⟩) l.length l.length) ∧ OpsIn w' w.heap.size 40 l ∧ Below w.heap.size w w' := by
  have HA : Hid (OpsAt w ao l) := ⟨hA⟩
  have HS : Hid (∀ o ∈ l, o.name.size ≤ 1048576 ∧ o.value.size ≤ 1048576) := ⟨hS⟩
  have hmk := make_ops l.length hl
  clear hA hS
  go_enter Try.func49, Try.ntmps49
  go_wp2
  clear hmk
  go_loopw [11] (fun i wr => ∃ k : Nat, k ≤ l.length ∧ i = .int .i64 k ∧ OpsIn wr w.heap.size 40 (part l k) ∧ Below w.heap.size w wr) (fun i _ => l.length - (intOf i).toNat)
  case atStart => exact ⟨0, by omega, rfl, by rw [part_zero]; exact heap_alloc_new w _, (Below.refl _ _).alloc (Nat.le_refl _) _⟩
  case round =>
    obtain ⟨k, hk, rfl, hO, hb⟩ := hrel
    have HO : Hid (OpsIn wr w.heap.size 40 (part l k)) := ⟨hO⟩
    have hwlt := hO.lt
    clear hO
    by_cases h : k < l.length
    · obtain ⟨b, off, rfl, hlt, ho⟩ := HA.out k h
      obtain ⟨o, hoo⟩ : ∃ o, l[k] = o := ⟨_, rfl⟩
      obtain ⟨c0, c1, c2, c3, c4, c5, c6⟩ := ho.block (w' := wr) (hb.block b hlt)
      rw [hoo] at c0 c1 c2 c3 c4 c5 c6
      have hsz := HS.out l[k] (List.getElem_mem h)
      rw [hoo] at hsz
      have HOo : Hid (l[k] = o) := ⟨hoo⟩
      have hQ : VarO wr.heap.size wr (wr.alloc (.cells #[.int .i64 o.time, .int .i64 o.repl, .int .i64 o.kind, .int .i64 o.node, .int .i64 o.parent, .string o.name, .string o.value] 40)) wr.heap.size 40 o := ⟨(Below.refl _ _).alloc (Nat.le_refl _) _, heap_alloc_new wr _⟩
      have hC5 := fun W => NumR.clone_any o.name W (by omega)
      have hC6 := fun W => NumR.clone_any o.value W (by omega)
      have hi0 : (0 : Int) ≤ (k : Int) := by omega
      have hi1 : (k : Int) < (l.length : Int) := by omega
      have hne1 : ¬ wr.heap.size = w.heap.size := by omega
      have hne2 : ¬ w.heap.size = wr.heap.size := by omega
      have hpl : k < (part l k).length := by rw [part_len hk]; exact h
      clear ho hoo hsz
      have m1 : Hid True := ⟨trivial⟩
      go_wp2_with (first | (go_at_call 106; clear m1; refine (hC5 _).mono ?_; rintro e x1 ⟨rfl, hx1⟩; have hQ1 := hQ.step hx1 (by simp); have HQ1 : Hid (VarO wr.heap.size wr x1 wr.heap.size 40 o) := ⟨hQ1⟩; clear c0 c1 c2 c3 c4 c5 c6; obtain ⟨k0, k1, k2, k3, k4, k5, k6⟩ := hQ1.cells; have g5 := hQ1.free 5; clear hQ1 hC5) | (go_at_call 106; refine (hC6 _).mono ?_; rintro e x2 ⟨rfl, hx2⟩; have hQ2 := (HQ1.out.set5 (Nat.le_refl _)).step hx2 (by have := HQ1.out.below.size; simp [World.setCell] at *; omega); have HQ2 : Hid (VarO wr.heap.size wr x2 wr.heap.size 40 o) := ⟨hQ2⟩; clear k0 k1 k2 k3 k4 k5 k6 g5 hC6; obtain ⟨k0, k1, k2, k3, k4, k5, k6⟩ := hQ2.cells; have g6 := hQ2.free 6; have hO2 := HO.out.stays hQ2.below; obtain ⟨d0, d1, d2, d3, d4, d5, d6⟩ := hO2.opAt hpl; have f0 := hO2.frozen (k * 7); have f1 := hO2.frozen (k * 7 + 1); have f2 := hO2.frozen (k * 7 + 2); have f3 := hO2.frozen (k * 7 + 3); have f4 := hO2.frozen (k * 7 + 4); have f5 := hO2.frozen (k * 7 + 5); have f6 := hO2.frozen (k * 7 + 6); clear hO2 hQ2))
      have hQ3 := HQ2.out.set6 (Nat.le_refl _)
      have hO3 := HO.out.stays hQ3.below
      go_roundw
      case rel =>
        refine ⟨k + 1, by omega, by go_num, ?_, Below.store7 (hb.trans (hQ3.below.mono hb.size)) (Nat.le_refl _) _ _ _ _ _ _ _ _ _ _ _ _ _ _⟩
        have hst := hO3.store hpl o
        have e := part_set h
        rw [HOo.out] at e
        rw [e] at hst
        exact hst
      case measure => simp [intOf]; omega
    · obtain rfl : k = l.length := by omega
      go_wp2
      go_ret
      have hO := HO.out
      rw [part_all] at hO
      exact ⟨rfl, hO, hb⟩
end Go.Proofs.Ytlphcbgeagmopaa.OpR
namespace Go.Proofs.Ytlphcbgeagmopaa.OpR
open Go.ChangeShapes Go.WideShapes Go.ChangeAt Go.RowKit
set_option linter.unusedVariables false

theorem right_sizes {o : OpV} (h : opRight o = true) : o.name.size ≤ 1048576 ∧ o.value.size ≤ 1048576 := by
  unfold opRight kindRight isIn at h
  simp only [Bool.and_eq_true, decide_eq_true_eq] at h
  obtain ⟨⟨⟨⟨⟨h1, h2⟩, h3, h4⟩, h5, h6⟩, h7⟩, h8⟩ := h
  have h9 := ((NameR.nmB_iff o.name).1 h7).2.1
  refine ⟨by omega, ?_⟩
  by_cases k1 : o.kind = 1
  · rw [if_pos k1] at h8
    simp only [Bool.and_eq_true, decide_eq_true_eq] at h8
    obtain ⟨_, h12⟩ := h8
    have e : o.value.toList = [] := by simpa using h12
    have e2 : o.value.data.toList = [] := by rw [← e, ByteArray.toList_eq]
    have hz : o.value.size = 0 := by have := congrArg List.length e2; simpa using this
    omega
  · rw [if_neg k1] at h8
    by_cases k2 : o.kind = 2
    · rw [if_pos k2] at h8
      simp only [Bool.and_eq_true, decide_eq_true_eq] at h8
      omega
    · rw [if_neg k2] at h8
      cases h8
/-- An answer of impl's: the row that is told is new, as long as it is told, or nil. -/
def OutIn (w w' : World) (e : Ending) (r : List OpV × Int × Int) : Prop := ∃ v, e = .returned (.agg #[v, .int .i64 r.2.1, .int .i64 r.2.2]) ∧ ((∃ g, v = .slice (some ⟨g, 0, none⟩) r.1.length r.1.length ∧ w.heap.size ≤ g ∧ OpsIn w' g 40 r.1) ∨ (v = .slice none 0 0 ∧ r.1 = [])) ∧ Below w.heap.size w w'
theorem OpsIn.setOther {w : World} {g b i : Nat} {T : TypeId} {l : List OpV} {x : Value} (h : OpsIn w g T l) (hne : g ≠ b) : OpsIn (w.setCell ⟨b, i, none⟩ x) g T l := by
  unfold OpsIn at *
  rw [heap_setCell_other _ _ _ _ hne]; exact h
theorem row_of {w : World} {base g cap : Nat} {T : TypeId} {l : List OpV} (h : w.ownsRow base T 7 (.slice (some ⟨g, 0, none⟩) l.length cap) l.length (flat l)) : RowB w g T (cap * 7) := by
  rcases h.2 with ⟨e, _⟩ | ⟨g', cap', cur, e, _, hg, _, _, hs, _⟩
  · simp at e
  · simp only [Value.slice.injEq, Option.some.injEq, Addr.mk.injEq] at e
    obtain ⟨⟨rfl, _⟩, _, rfl⟩ := e
    exact ⟨cur, hg, hs⟩
/-- What is told of what one of each stamp makes. -/
theorem res_of_none {l m s : List OpV} (hl : Strict l) (hs : s.Perm m) (ho : Orderd s) (h : once [] (mrg l s) = none) : addRes l m = ([], 0, 7) := res_none ((once_add hl hs ho).2 h)
theorem res_of_full {l m s k : List OpV} (hl : Strict l) (hs : s.Perm m) (ho : Orderd s) (h : once [] (mrg l s) = some k) (hk : 150 < k.length) : addRes l m = ([], 0, 9) := res_full ((once_add hl hs ho).1 k h) hk
theorem res_of_some {l m s k : List OpV} (hl : Strict l) (hs : s.Perm m) (ho : Orderd s) (h : once [] (mrg l s) = some k) (hk : ¬ 150 < k.length) : addRes l m = (k, (k.length : Int) - l.length, 0) := res_some ((once_add hl hs ho).1 k h) hk
theorem once_right {l m s k : List OpV} (hl : LogR l) (hm : OpsR m) (hs : s.Perm m) (ho : Orderd s) (h : once [] (mrg l s) = some k) : (∀ o ∈ k, o.name.size ≤ 1048576 ∧ o.value.size ≤ 1048576) ∧ k.length ≤ 300 := by
  have hS := rises_strict hl.2.2
  have h1 := (once_spec (mrg l s) [] (by simp [Strict]) (by simpa using mrg_ord (strict_ord hS) ho)).1 k h
  refine ⟨fun o ho => ?_, ?_⟩
  · have h2 := (h1.2 o).1 ho
    rw [List.nil_append, (mrg_perm l s).mem_iff, List.mem_append, hs.mem_iff] at h2
    rcases h2 with h2 | h2
    · obtain ⟨j, hj, rfl⟩ := List.getElem_of_mem h2
      exact right_sizes (hl.1 j hj)
    · obtain ⟨j, hj, rfl⟩ := List.getElem_of_mem h2
      exact right_sizes (hm.2.1 j hj)
  · have h2 := once_len (mrg l s) [] k h
    rw [mrg_len, hs.length_eq] at h2
    have := hl.2.1
    have := hm.1
    simp at h2
    omega

set_option maxRecDepth 100000 in
set_option maxHeartbeats 1000000 in
theorem iLogAdd_any (l m : List OpV) (ao1 ao2 : Option Addr) (cap1 cap2 : Nat) (w : World) (hl : l.length ≤ maxLen) (hm : m.length ≤ maxLen) (hc1 : l.length ≤ cap1) (hc2 : m.length ≤ cap2) (hA : OpsAt w ao1 l) (hC : OpsAt w ao2 m) (hS : Sized l) (hT : Sized m) :
    Calls Try.prog 7 #[.slice ao1 l.length cap1, .slice ao2 m.length cap2] w fun e w' => OutIn w w' e (logRes l m) := by
  have h1 := fun W (hW : Below w.heap.size w W) => iLog_any l ao1 cap1 W hl (hA.stays hW) hS
  have h2 := fun W (hW : Below w.heap.size w W) => iOps_any m ao2 cap2 W hm hc2 (hC.stays hW) hT
  have HA : Hid (OpsAt w ao1 l) := ⟨hA⟩
  have HC : Hid (OpsAt w ao2 m) := ⟨hC⟩
  have Hc1 : Hid (l.length ≤ cap1) := ⟨hc1⟩
  have Hc2 : Hid (m.length ≤ cap2) := ⟨hc2⟩
  clear hA hC hS hT hc1 hc2
  unfold maxLen at hl hm
  have hb0 : Below w.heap.size w (w.alloc (.cells #[.slice none 0 0, .int .i64 0, .int .i64 0] 27)) := (Below.refl _ _).alloc (Nat.le_refl _) _
  by_cases h400 : 400 < l.length ∨ 400 < m.length
  · have HF : Hid (logRes l m = ([], 0, 2)) := ⟨log_far h400⟩
    by_cases ha : 400 < l.length
    · go_enter Try.func7, Try.ntmps7
      go_wp2
      refine bodyPost_ret (v := .agg #[.slice none 0 0, .int .i64 0, .int .i64 2]) (by simp [results, Try.results7, go_sem]) rfl ⟨.slice none 0 0, by rw [HF.out], .inr ⟨rfl, by rw [HF.out]⟩, ?_⟩
      exact (Below.refl _ _).alloc (Nat.le_refl _) _
    · have hb : 400 < m.length := by omega
      clear h400
      go_enter Try.func7, Try.ntmps7
      go_wp2
      refine bodyPost_ret (v := .agg #[.slice none 0 0, .int .i64 0, .int .i64 2]) (by simp [results, Try.results7, go_sem]) rfl ⟨.slice none 0 0, by rw [HF.out], .inr ⟨rfl, by rw [HF.out]⟩, ?_⟩
      exact (Below.refl _ _).alloc (Nat.le_refl _) _
  · have ha : ¬ 400 < l.length := by omega
    have hb : ¬ 400 < m.length := by omega
    have HN : Hid (¬ (400 < l.length ∨ 400 < m.length)) := ⟨h400⟩
    clear h400
    have hres : ∀ W, Below (w.alloc (.cells #[.slice none 0 0, .int .i64 0, .int .i64 0] 27)).heap.size (w.alloc (.cells #[.slice none 0 0, .int .i64 0, .int .i64 0] 27)) W → W.heap[w.heap.size]? = some (.cells #[.slice none 0 0, .int .i64 0, .int .i64 0] 27 (0, 0)) := fun W hW => (hW.block w.heap.size (by simp)).trans (heap_alloc_new w _)
    cases hlr : logRight l
    · have HF : Hid (logRes l m = ([], 0, 1)) := ⟨log_form HN.out (fun hh => by rw [hlr] at hh; exact absurd hh.1 (by decide))⟩
      rw [hlr] at h1
      clear hlr h2
      go_enter Try.func7, Try.ntmps7
      go_wp2_with (first | (go_at_call 44; refine (h1 _ hb0).mono ?_; rintro e w1 ⟨rfl, hb1⟩; have hB1 := hb0.trans (hb1.mono (by simp)); obtain ⟨r0, r1, r2, f0, f1, f2, hrlt⟩ := cells3 (hres w1 hb1)))
      refine bodyPost_ret (v := .agg #[.slice none 0 0, .int .i64 0, .int .i64 1]) (by simp [results, Try.results7, go_sem, r0, r1, r2]) rfl ⟨.slice none 0 0, by rw [HF.out], .inr ⟨rfl, by rw [HF.out]⟩, ?_⟩
      exact ((hB1.setCell (Nat.le_refl _) _).setCell (Nat.le_refl _) _).setCell (Nat.le_refl _) _
    · rw [hlr] at h1
      have hL := log_of hlr
      have HLr : Hid (logRight l = true) := ⟨hlr⟩
      clear hlr
      cases hor : opsRight m
      · have HF : Hid (logRes l m = ([], 0, 1)) := ⟨log_form HN.out (fun hh => by rw [hor] at hh; exact absurd hh.2 (by decide))⟩
        rw [hor] at h2
        clear hor hL
        go_enter Try.func7, Try.ntmps7
        go_wp2_with (first | (go_at_call 44; refine (h1 _ hb0).mono ?_; rintro e w1 ⟨rfl, hb1⟩; have hB1 := hb0.trans (hb1.mono (by simp))) | (go_at_call 12; refine (h2 _ hB1).mono ?_; rintro e w2 ⟨rfl, hb2⟩; have hB2 := hB1.trans (hb2.mono hB1.size); obtain ⟨r0, r1, r2, f0, f1, f2, hrlt⟩ := cells3 (hres w2 (hb1.trans (hb2.mono hb1.size)))))
        refine bodyPost_ret (v := .agg #[.slice none 0 0, .int .i64 0, .int .i64 1]) (by simp [results, Try.results7, go_sem, r0, r1, r2]) rfl ⟨.slice none 0 0, by rw [HF.out], .inr ⟨rfl, by rw [HF.out]⟩, ?_⟩
        exact ((hB2.setCell (Nat.le_refl _) _).setCell (Nat.le_refl _) _).setCell (Nat.le_refl _) _
      · have HF : Hid (logRes l m = addRes l m) := ⟨log_add HN.out ⟨HLr.out, hor⟩⟩
        have hM := opsR_of hor
        have HL : Hid (LogR l) := ⟨hL⟩
        have HM : Hid (OpsR m) := ⟨hM⟩
        have hs := fun W (hW : Below w.heap.size w W) => sorted_any m.length m ao2 cap2 W (Nat.le_refl _) (by omega) Hc2.out (HC.out.stays hW)
        have hg := fun s (hs : s.length ≤ 400) (bo : Option Addr) (cb : Nat) (hcb : s.length ≤ cb) W (hW : Below w.heap.size w W) (hB : OpsAt W bo s) => merged_any l s ao1 bo cap1 cb W (by omega) hs Hc1.out hcb (HA.out.stays hW) hB
        have Hg : Hid (∀ s (hs : List.length s ≤ 400) (bo : Option Addr) (cb : Nat) (hcb : s.length ≤ cb) W (hW : Below w.heap.size w W) (hB : OpsAt W bo s), Calls Try.prog 46 #[.slice ao1 l.length cap1, .slice bo s.length cb, aheadFn] W fun e w' => ∃ v, e = .returned v ∧ OwnAt w' W.heap.size 40 v (mrg l s) ∧ Below W.heap.size W w') := ⟨hg⟩
        rw [hor] at h2
        unfold aheadFn at hs Hg
        clear hor hL hM hg
        go_enter Try.func7, Try.ntmps7
        go_wp2_with (first | (go_at_call 44; refine (h1 _ hb0).mono ?_; rintro e w1 ⟨rfl, hb1⟩; have hB1 := hb0.trans (hb1.mono (by simp)); clear h1) | (go_at_call 12; refine (h2 _ hB1).mono ?_; rintro e w2 ⟨rfl, hb2⟩; have hB2 := hB1.trans (hb2.mono hB1.size); have hK2 := hb1.trans (hb2.mono hb1.size); clear h2) | (go_at_call 47; refine (hs _ hB2).mono ?_; rintro e w3 ⟨v3, s3, rfl, hp3, ho3, hw3, hb3⟩; have hB3 := hB2.trans (hb3.mono hB2.size); have hK3 := hK2.trans (hb3.mono hK2.size); have hl3 : Hid (s3.length ≤ 400) := ⟨by rw [hp3.length_eq]; omega⟩; obtain ⟨a3, c3, rfl, hc3, hA3⟩ := owns_at hw3; clear hs hw3) | (go_at_call 46; refine (Hg.out s3 hl3.out a3 c3 hc3 _ hB3 hA3).mono ?_; rintro e w4 ⟨v4, rfl, hO4, hb4⟩; have hB4 := hB3.trans (hb4.mono hB3.size); have hK4 := hK3.trans (hb4.mono hK3.size); obtain ⟨g4, c4, rfl, hg4, hlt4, hcc4, hcm4, hA4⟩ := hO4.at; have hR4 := row_of hO4.1; have h5 := once_any (mrg l s3) g4 c4 w4 (by rw [mrg_len]; have := hl3.out; omega) hcc4 hR4 hA4; have H5 := Hid.mk h5; clear hA4 hR4 hO4 Hg h5))
        refine H5.out.mono ?_
        rintro e w5 ⟨hgr, hcase⟩
        have hs3 := hK3.size
        have hsa : (w.alloc (.cells #[.slice none 0 0, .int .i64 0, .int .i64 0] 27)).heap.size = w.heap.size + 1 := by simp
        have hB5 : Below w.heap.size w w5 := hB4.grown hgr hB4.size (fun j hj => by cases hj; omega)
        have hK5 := hK4.grown hgr hK4.size (fun j hj => by cases hj; omega)
        obtain ⟨r0, r1, r2, f0, f1, f2, hrlt⟩ := cells3 (hres w5 hK5)
        have HSt : Hid (Strict l) := ⟨rises_strict HL.out.2.2⟩
        clear hgr hs3 hsa H5
        rcases hcase with ⟨k, hk, rfl, hAk⟩ | ⟨hk, rfl⟩
        · have hR := once_right HL.out HM.out hp3 ho3 hk
          have hk300 := hR.2
          have HRk : Hid (∀ o ∈ k, o.name.size ≤ 1048576 ∧ o.value.size ≤ 1048576) := ⟨hR.1⟩
          have HAk : Hid (OpsAt w5 (some ⟨g4, 0, none⟩) k) := ⟨hAk⟩
          clear hR hAk
          by_cases hfull : 150 < k.length
          · have HRs : Hid (logRes l m = ([], 0, 9)) := ⟨HF.out.trans (res_of_full HSt.out hp3 ho3 hk hfull)⟩
            clear hk
            go_wp2
            refine bodyPost_ret (v := .agg #[.slice none 0 0, .int .i64 0, .int .i64 9]) (by simp [results, Try.results7, go_sem, r0, r1, r2]) rfl ⟨.slice none 0 0, by rw [HRs.out], .inr ⟨rfl, by rw [HRs.out]⟩, ?_⟩
            exact ((hB5.setCell (Nat.le_refl _) _).setCell (Nat.le_refl _) _).setCell (Nat.le_refl _) _
          · have HRs : Hid (logRes l m = (k, (k.length : Int) - l.length, 0)) := ⟨HF.out.trans (res_of_some HSt.out hp3 ho3 hk hfull)⟩
            have hw := own_any k (some ⟨g4, 0, none⟩) k.length w5 (by omega) HAk.out HRk.out
            have hwr : IntKind.i64.wrap ((k.length : Int) - (l.length : Int)) = (k.length : Int) - (l.length : Int) := Go.IntWalk.i64_in _ (by omega)
            clear hk
            go_wp2_with (first | (go_at_call 49; refine hw.mono ?_; rintro e w6 ⟨rfl, hO6, hb6⟩; have hB6 := hB5.trans (hb6.mono hB5.size); have HO6 : Hid (OpsIn w6 w5.heap.size 40 k) := ⟨hO6⟩; clear r0 r1 r2 f0 f1 f2 hrlt hO6; obtain ⟨r0, r1, r2, f0, f1, f2, hrlt⟩ := cells3 (hres w6 (hK5.trans (hb6.mono hK5.size)))))
            have hs5 : w.heap.size < w5.heap.size := Nat.lt_of_lt_of_le (by simp) hK5.size
            refine bodyPost_ret (v := .agg #[.slice (some ⟨w5.heap.size, 0, none⟩) k.length k.length, .int .i64 ((k.length : Int) - (l.length : Int)), .int .i64 0]) (by simp [results, Try.results7, go_sem, r0, r1, r2]) rfl ⟨.slice (some ⟨w5.heap.size, 0, none⟩) k.length k.length, by rw [HRs.out], .inl ⟨w5.heap.size, by rw [HRs.out], by omega, ?_⟩, ?_⟩
            · rw [HRs.out]
              exact ((HO6.out.setOther (by omega)).setOther (by omega)).setOther (by omega)
            · exact ((hB6.setCell (Nat.le_refl _) _).setCell (Nat.le_refl _) _).setCell (Nat.le_refl _) _
        · have HRs : Hid (logRes l m = ([], 0, 7)) := ⟨HF.out.trans (res_of_none HSt.out hp3 ho3 hk)⟩
          clear hk
          go_wp2
          refine bodyPost_ret (v := .agg #[.slice none 0 0, .int .i64 0, .int .i64 7]) (by simp [results, Try.results7, go_sem, r0, r1, r2]) rfl ⟨.slice none 0 0, by rw [HRs.out], .inr ⟨rfl, by rw [HRs.out]⟩, ?_⟩
          exact ((hB5.setCell (Nat.le_refl _) _).setCell (Nat.le_refl _) _).setCell (Nat.le_refl _) _
end Go.Proofs.Ytlphcbgeagmopaa.OpR
