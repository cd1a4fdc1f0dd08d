/- An op as a Lean value, and how it lies in memory: seven cells. A row of ops that the call itself has made: what lies in it, and what a store of an op makes of it. Proves what the harness does with ops: sizes, copies, comparisons. Proves that at every text impl.NameRight answers as spec.NameRight does (the law FnExactNameRight returns true, and the text reads as it did); no condition. Proves what spec.OpRight tells of an op, and what the spec's tests of logs tell. Proves what spec's tests of logs and of lists of ops tell. Proves what impl.OpRight tells of an op, and impl's tests of stamps and of rows of ops. Nodes with their props as Lean values, and how they lie in memory: a prop has two cells, a node four. -/
import Derived.Test.YtcpgkalafkhlgaeRows
import Derived.WalkKit
import Derived.WalkSpells
import Derived.WalkLawsBesides
import Derived.ProofKit
import Derived.Deep.Light
import Derived.Deep.AppendLies
import Derived.Deep.RegionHeld3
import Derived.Deep.OwnRows
import Derived.WalkMore
namespace Go.Proofs.Ytcpgkalafkhlgae.OpR
open Go.ChangeShapes Go.WideShapes Go.ChangeAt Go.RowKit
set_option linter.unusedVariables false

/-- What the walk is not to use. -/
structure Hid (p : Prop) : Prop where
  out : p
theorem hide {p : Prop} (h : p) : Hid p := ⟨h⟩

structure OpV where
  time : Int
  repl : Int
  kind : Int
  node : Int
  parent : Int
  name : ByteArray
  value : ByteArray
/-- Two ops as wholes. -/
def sameOp (a b : OpV) : Bool := decide (a.time = b.time) && (decide (a.repl = b.repl) && (decide (a.kind = b.kind) && (decide (a.node = b.node) && (decide (a.parent = b.parent) && (decide (a.name = b.name) && decide (a.value = b.value))))))
theorem same_iff (a b : OpV) : sameOp a b = true ↔ a = b := by
  constructor
  · intro h
    unfold sameOp at h
    simp only [Bool.and_eq_true, decide_eq_true_eq] at h
    obtain ⟨h0, h1, h2, h3, h4, h5, h6⟩ := h
    obtain ⟨a0, a1, a2, a3, a4, a5, a6⟩ := a
    obtain ⟨b0, b1, b2, b3, b4, b5, b6⟩ := b
    simp only at h0 h1 h2 h3 h4 h5 h6
    rw [h0, h1, h2, h3, h4, h5, h6]
  · intro h
    subst h
    simp [sameOp]
theorem same_true {a b : OpV} (h : a = b) : sameOp a b = true := (same_iff a b).2 h
theorem same_false {a b : OpV} (h : ¬ a = b) : sameOp a b = false := by
  cases e : sameOp a b
  · rfl
  · exact absurd ((same_iff a b).1 e) h
/-- A question asked of each number below n. -/
def allTo (n : Nat) (p : Nat → Bool) : Bool := (List.range n).all p
theorem allTo_iff (n : Nat) (p : Nat → Bool) : allTo n p = true ↔ ∀ i, i < n → p i = true := by
  unfold allTo
  rw [List.all_eq_true]
  exact ⟨fun h i hi => h i (List.mem_range.2 hi), fun h i hi => h i (List.mem_range.1 hi)⟩
theorem bool_no {b : Bool} {p : Prop} (h : b = true ↔ p) (hn : ¬ p) : b = false := by
  cases e : b
  · rfl
  · exact absurd (h.1 e) hn
/-- Its cells. -/
def OpV.cells (o : OpV) : List Value := [.int .i64 o.time, .int .i64 o.repl, .int .i64 o.kind, .int .i64 o.node, .int .i64 o.parent, .string o.name, .string o.value]
def OpV.agg (o : OpV) : Value := .agg #[.int .i64 o.time, .int .i64 o.repl, .int .i64 o.kind, .int .i64 o.node, .int .i64 o.parent, .string o.name, .string o.value]
/-- The seven cells of an op at a place. -/
def OpAt (w : World) (b p : Nat) (o : OpV) : Prop :=
  w.cell? ⟨b, p, none⟩ = some (.int .i64 o.time) ∧ w.cell? ⟨b, p + 1, none⟩ = some (.int .i64 o.repl) ∧ w.cell? ⟨b, p + 2, none⟩ = some (.int .i64 o.kind) ∧ w.cell? ⟨b, p + 3, none⟩ = some (.int .i64 o.node) ∧ w.cell? ⟨b, p + 4, none⟩ = some (.int .i64 o.parent) ∧ w.cell? ⟨b, p + 5, none⟩ = some (.string o.name) ∧ w.cell? ⟨b, p + 6, none⟩ = some (.string o.value)
/-- The ops of a slice. -/
def OpsAt (w : World) (ao : Option Addr) (l : List OpV) : Prop := ∀ j (hj : j < l.length), ∃ b off, ao = some ⟨b, off, none⟩ ∧ b < w.heap.size ∧ OpAt w b (off + j * 7) l[j]
theorem OpAt.block {w w' : World} {b p : Nat} {o : OpV} (h : OpAt w b p o) (e : w'.heap[b]? = w.heap[b]?) : OpAt w' b p o := by
  unfold OpAt at *
  simpa only [World.cell?, e] using h
theorem OpsAt.below {B : Nat} {w w' : World} {ao : Option Addr} {l : List OpV} (h : OpsAt w ao l) (hb : Below B w w') (hB : ∀ a, ao = some a → a.block < B) : OpsAt w' ao l := fun j hj => by
  obtain ⟨b, off, e, hlt, ho⟩ := h j hj
  exact ⟨b, off, e, Nat.lt_of_lt_of_le hlt hb.size, ho.block (hb.block b (hB _ e))⟩
theorem OpsAt.stays {w w' : World} {ao : Option Addr} {l : List OpV} (h : OpsAt w ao l) (hb : Below w.heap.size w w') : OpsAt w' ao l := fun j hj => by
  obtain ⟨b, off, e, hlt, ho⟩ := h j hj
  exact ⟨b, off, e, Nat.lt_of_lt_of_le hlt hb.size, ho.block (hb.block b hlt)⟩
end Go.Proofs.Ytcpgkalafkhlgae.OpR
namespace Go.Proofs.Ytcpgkalafkhlgae.OpR
open Go.ChangeShapes Go.WideShapes Go.ChangeAt Go.RowKit
set_option linter.unusedVariables false

def OpV.zero : OpV := ⟨0, 0, 0, 0, 0, ⟨#[]⟩, ⟨#[]⟩⟩
def flat (l : List OpV) : List Value := l.flatMap OpV.cells
/-- The cells of a row of ops. -/
def opsArr (l : List OpV) : Array Value := (flat l).toArray
theorem flat_cons (o : OpV) (l : List OpV) : flat (o :: l) = o.cells ++ flat l := by simp [flat]
theorem flat_app (a b : List OpV) : flat (a ++ b) = flat a ++ flat b := by simp [flat]
theorem cells_len (o : OpV) : o.cells.length = 7 := rfl
theorem flat_len (l : List OpV) : (flat l).length = l.length * 7 := by
  induction l with
  | nil => rfl
  | cons o l ih => rw [flat_cons, List.length_append, ih, cells_len, List.length_cons]; omega
theorem flat_get : ∀ (l : List OpV) (k f : Nat) (hk : k < l.length), f < 7 → (flat l)[k * 7 + f]? = l[k].cells[f]?
  | o :: l, 0, f, hk, hf => by
    rw [flat_cons, Nat.zero_mul, Nat.zero_add, List.getElem?_append_left (by rw [cells_len]; exact hf)]; rfl
  | o :: l, k + 1, f, hk, hf => by
    rw [flat_cons, List.getElem?_append_right (by rw [cells_len]; omega), cells_len, show (k + 1) * 7 + f - 7 = k * 7 + f by omega]
    exact flat_get l k f (by simpa using hk) hf
theorem opsArr_size (l : List OpV) : (opsArr l).size = l.length * 7 := by simp [opsArr, flat_len]
theorem opsArr_get {l : List OpV} {k f : Nat} (hk : k < l.length) (hf : f < 7) : (opsArr l)[k * 7 + f]? = l[k].cells[f]? := by
  unfold opsArr
  rw [List.getElem?_toArray, flat_get l k f hk hf]
/-- Seven stores are the store of an op. -/
theorem flat_set : ∀ (l : List OpV) (k : Nat) (o : OpV), k < l.length →
    ((((((((flat l).set (k * 7) (.int .i64 o.time)).set (k * 7 + 1) (.int .i64 o.repl)).set (k * 7 + 2) (.int .i64 o.kind)).set (k * 7 + 3) (.int .i64 o.node)).set (k * 7 + 4) (.int .i64 o.parent)).set (k * 7 + 5) (.string o.name)).set (k * 7 + 6) (.string o.value)) = flat (l.set k o)
  | x :: l, 0, o, hk => by
    rw [flat_cons, List.set_cons_zero, flat_cons]; rfl
  | x :: l, k + 1, o, hk => by
    rw [flat_cons, List.set_cons_succ, flat_cons, ← flat_set l k o (by simpa using hk)]
    have e : ∀ (f : Nat) (v : Value) (r : List Value), (x.cells ++ r).set ((k + 1) * 7 + f) v = x.cells ++ r.set (k * 7 + f) v := fun f v r => by
      rw [List.set_append_right _ _ (by rw [cells_len]; omega), cells_len, show (k + 1) * 7 + f - 7 = k * 7 + f by omega]
    have e0 := e 0
    simp only [Nat.add_zero] at e0
    rw [e0, e 1, e 2, e 3, e 4, e 5, e 6]
theorem opsArr_set {l : List OpV} {k : Nat} (o : OpV) (hk : k < l.length) :
    (((((((opsArr l).setIfInBounds (k * 7) (.int .i64 o.time)).setIfInBounds (k * 7 + 1) (.int .i64 o.repl)).setIfInBounds (k * 7 + 2) (.int .i64 o.kind)).setIfInBounds (k * 7 + 3) (.int .i64 o.node)).setIfInBounds (k * 7 + 4) (.int .i64 o.parent)).setIfInBounds (k * 7 + 5) (.string o.name)).setIfInBounds (k * 7 + 6) (.string o.value) = opsArr (l.set k o) := by
  unfold opsArr
  simp only [List.setIfInBounds_toArray]
  rw [flat_set l k o hk]

/-- A block of ops, none frozen. -/
def OpsIn (w : World) (g : Nat) (T : TypeId) (l : List OpV) : Prop := w.heap[g]? = some (.cells (opsArr l) T (0, 0))
theorem OpsIn.lt {w : World} {g : Nat} {T : TypeId} {l : List OpV} (h : OpsIn w g T l) : g < w.heap.size := (Array.getElem?_eq_some_iff.1 h).1
theorem OpsIn.cell {w : World} {g : Nat} {T : TypeId} {l : List OpV} (h : OpsIn w g T l) {k f : Nat} (hk : k < l.length) (hf : f < 7) {v : Value} (hv : l[k].cells[f]? = some v) : w.cell? ⟨g, k * 7 + f, none⟩ = some v := by
  have e := opsArr_get hk hf
  rw [hv] at e
  unfold OpsIn at h
  simp [World.cell?, h, e]
theorem OpsIn.frozen {w : World} {g : Nat} {T : TypeId} {l : List OpV} (h : OpsIn w g T l) (p : Nat) : w.frozen? ⟨g, p, none⟩ = false := by
  unfold OpsIn at h
  simp [World.frozen?, h]
theorem OpsIn.opAt {w : World} {g : Nat} {T : TypeId} {l : List OpV} (h : OpsIn w g T l) {k : Nat} (hk : k < l.length) : OpAt w g (k * 7) l[k] :=
  ⟨h.cell hk (f := 0) (by omega) rfl, h.cell hk (f := 1) (by omega) rfl, h.cell hk (f := 2) (by omega) rfl, h.cell hk (f := 3) (by omega) rfl, h.cell hk (f := 4) (by omega) rfl, h.cell hk (f := 5) (by omega) rfl, h.cell hk (f := 6) (by omega) rfl⟩
theorem OpsIn.opsAt {w : World} {g : Nat} {T : TypeId} {l : List OpV} (h : OpsIn w g T l) : OpsAt w (some ⟨g, 0, none⟩) l := fun j hj =>
  ⟨g, 0, rfl, h.lt, by rw [Nat.zero_add]; exact h.opAt hj⟩
theorem OpsIn.block {w w' : World} {g : Nat} {T : TypeId} {l : List OpV} (h : OpsIn w g T l) (e : w'.heap[g]? = w.heap[g]?) : OpsIn w' g T l := e.trans h
theorem OpsIn.stays {w w' : World} {g : Nat} {T : TypeId} {l : List OpV} (h : OpsIn w g T l) (hb : Below w.heap.size w w') : OpsIn w' g T l := h.block (hb.block g h.lt)
theorem set_block {w : World} {g : Nat} {cs : Array Value} {T : TypeId} (h : w.heap[g]? = some (.cells cs T (0, 0))) (i : Nat) (v : Value) : (w.setCell ⟨g, i, none⟩ v).heap[g]? = some (.cells (cs.setIfInBounds i v) T (0, 0)) :=
  heap_setCell_same w g i cs T v h
/-- What a store of an op leaves. -/
theorem OpsIn.store {w : World} {g : Nat} {T : TypeId} {l : List OpV} (h : OpsIn w g T l) {k : Nat} (hk : k < l.length) (o : OpV) :
    OpsIn (((((((w.setCell ⟨g, k * 7, none⟩ (.int .i64 o.time)).setCell ⟨g, k * 7 + 1, none⟩ (.int .i64 o.repl)).setCell ⟨g, k * 7 + 2, none⟩ (.int .i64 o.kind)).setCell ⟨g, k * 7 + 3, none⟩ (.int .i64 o.node)).setCell ⟨g, k * 7 + 4, none⟩ (.int .i64 o.parent)).setCell ⟨g, k * 7 + 5, none⟩ (.string o.name)).setCell ⟨g, k * 7 + 6, none⟩ (.string o.value)) g T (l.set k o) := by
  have h7 := set_block (set_block (set_block (set_block (set_block (set_block (set_block h (k * 7) (.int .i64 o.time)) (k * 7 + 1) (.int .i64 o.repl)) (k * 7 + 2) (.int .i64 o.kind)) (k * 7 + 3) (.int .i64 o.node)) (k * 7 + 4) (.int .i64 o.parent)) (k * 7 + 5) (.string o.name)) (k * 7 + 6) (.string o.value)
  rw [opsArr_set o hk] at h7
  exact h7
theorem Below.store7 {B : Nat} {a w : World} (h : Below B a w) {g : Nat} (hg : B ≤ g) (p0 p1 p2 p3 p4 p5 p6 : Nat) (v0 v1 v2 v3 v4 v5 v6 : Value) :
    Below B a (((((((w.setCell ⟨g, p0, none⟩ v0).setCell ⟨g, p1, none⟩ v1).setCell ⟨g, p2, none⟩ v2).setCell ⟨g, p3, none⟩ v3).setCell ⟨g, p4, none⟩ v4).setCell ⟨g, p5, none⟩ v5).setCell ⟨g, p6, none⟩ v6) :=
  ((((((h.setCell hg _).setCell hg _).setCell hg _).setCell hg _).setCell hg _).setCell hg _).setCell hg _

/-- New ops, all zero. -/
theorem made_ops (n : Nat) : madeCells #[Value.int .i64 0, .int .i64 0, .int .i64 0, .int .i64 0, .int .i64 0, .string ⟨#[]⟩, .string ⟨#[]⟩] (n * 7) = opsArr (List.replicate n OpV.zero) := by
  apply Array.ext_getElem?
  intro p
  by_cases hp : p < n * 7
  · obtain ⟨k, f, rfl, hf⟩ : ∃ k f, p = k * 7 + f ∧ f < 7 := ⟨p / 7, p % 7, by omega, by omega⟩
    rw [opsArr_get (l := List.replicate n OpV.zero) (by rw [List.length_replicate]; omega) hf, List.getElem_replicate]
    simp only [madeCells, Array.getElem?_map]
    rw [Array.getElem?_eq_getElem (by simpa using hp)]
    simp only [Option.map_some, Array.getElem_range]
    have e : (k * 7 + f) % 7 = f := by omega
    show some (#[Value.int .i64 0, .int .i64 0, .int .i64 0, .int .i64 0, .int .i64 0, .string ⟨#[]⟩, .string ⟨#[]⟩][(k * 7 + f) % 7]!) = _
    rw [e]
    match f, hf with
    | 0, _ => rfl
    | 1, _ => rfl
    | 2, _ => rfl
    | 3, _ => rfl
    | 4, _ => rfl
    | 5, _ => rfl
    | 6, _ => rfl
  · rw [Array.getElem?_eq_none (by rw [size_madeCells]; omega), Array.getElem?_eq_none (by rw [opsArr_size]; simp; omega)]
theorem infoOp : (Try.prog.info? 51).map (fun i => (i.zero, i.size, i.bytes)) = some (some (.agg #[.int .i64 0, .int .i64 0, .int .i64 0, .int .i64 0, .int .i64 0, .string ⟨#[]⟩, .string ⟨#[]⟩]), 7, 72) := by kernel_rfl
theorem make_ops (n : Nat) (hn : n ≤ 1048576) (w : World) : (Instr.makeSlice 22 (.int .i64 (n : Int)) (.int .i64 (n : Int))).run Try.prog w = .ok (.slice (some ⟨w.heap.size, 0, none⟩) n n) (w.alloc (.cells (opsArr (List.replicate n OpV.zero)) 51)) := by
  obtain ⟨i, hi, hz⟩ := Option.map_eq_some_iff.1 infoOp
  simp only [Prod.mk.injEq] at hz
  obtain ⟨hz, hs, hb⟩ := hz
  have h := run_make (P := Try.prog) w 22 51 i _ Try.underlying22 hi hz .i64 .i64 n n (by omega) (by omega) (by rw [hb]; omega) (by omega)
  simp only [Int.toNat_natCast, hs] at h
  rw [← made_ops n]
  exact h
end Go.Proofs.Ytcpgkalafkhlgae.OpR
namespace Go.Proofs.Ytcpgkalafkhlgae.OpR
open Go.ChangeShapes Go.WideShapes Go.ChangeAt Go.RowKit
set_option linter.unusedVariables false

set_option maxRecDepth 100000 in
set_option maxHeartbeats 400000 in
theorem szOp_any (o : OpV) (left : Int) (w : World) (h0 : 0 ≤ left) (h1 : left ≤ 1048576) (hn : o.name.size ≤ maxLen) (hv : o.value.size ≤ maxLen) :
    Calls Try.prog 25 #[o.agg, .int .i64 left] w fun e w' => ∃ m : Int, e = .returned (.int .i64 m) ∧ m ≤ left ∧ -1 ≤ m ∧ (0 ≤ m → o.name.size ≤ left ∧ o.value.size ≤ left) ∧ Below w.heap.size w w' := by
  unfold maxLen at hn hv
  unfold OpV.agg
  go_enter Try.func25, Try.ntmps25
  go_wp2
  · go_ret; exact ⟨-1, rfl, by omega, by omega, fun h => by omega, (Below.refl _ _).alloc (Nat.le_refl _) _⟩
  · go_ret; exact ⟨-1, rfl, by omega, by omega, fun h => by omega, (Below.refl _ _).alloc (Nat.le_refl _) _⟩
  · go_ret; exact ⟨_, rfl, by omega, by omega, fun h => by omega, (Below.refl _ _).alloc (Nat.le_refl _) _⟩

set_option maxRecDepth 100000 in
set_option maxHeartbeats 400000 in
theorem toOp_any (o : OpV) (w : World) :
    Calls Try.prog 27 #[o.agg] w fun e w' => e = .returned o.agg ∧ Below w.heap.size w w' := by
  unfold OpV.agg
  go_enter Try.func27, Try.ntmps27
  go_wp2
  exact bodyPost_ret (v := .agg #[.int .i64 o.time, .int .i64 o.repl, .int .i64 o.kind, .int .i64 o.node, .int .i64 o.parent, .string o.name, .string o.value]) (by simp [results, Try.results27, go_sem]) rfl ⟨rfl, (((Below.refl _ _).alloc (Nat.le_refl _) _).alloc (by simp) _).alloc (by simp; omega) _⟩

set_option maxRecDepth 100000 in
set_option maxHeartbeats 400000 in
theorem eqOp_same (o : OpV) (w : World) :
    Calls Try.prog 49 #[o.agg, o.agg] w fun e w' => e = .returned (.bool true) ∧ Below w.heap.size w w' := by
  unfold OpV.agg
  go_enter Try.func49, Try.ntmps49
  go_wp2
  go_ret
  exact ⟨rfl, ((Below.refl _ _).alloc (Nat.le_refl _) _).alloc (by simp) _⟩

set_option maxRecDepth 100000 in
set_option maxHeartbeats 400000 in
theorem szOpS_any (l : List OpV) (ao : Option Addr) (cap : Nat) (w : World) (hl : l.length ≤ maxLen) (hA : OpsAt w ao l) (hS : ∀ o ∈ l, o.name.size ≤ maxLen ∧ o.value.size ≤ maxLen) :
    Calls Try.prog 14 #[.slice ao l.length cap, .int .i64 1048576] w fun e w' => ∃ m : Int, e = .returned (.int .i64 m) ∧ (0 ≤ m → l.length ≤ 1048576 ∧ ∀ o ∈ l, o.name.size ≤ 1048576 ∧ o.value.size ≤ 1048576) ∧ Below w.heap.size w w' := by
  have hl' := hl
  unfold maxLen at hl
  have HA : Hid (OpsAt w ao l) := ⟨hA⟩
  have HS : Hid (∀ o ∈ l, o.name.size ≤ maxLen ∧ o.value.size ≤ maxLen) := ⟨hS⟩
  clear hA hS
  go_enter Try.func14, Try.ntmps14
  go_wp2
  · go_ret; exact ⟨-1, rfl, fun h => by omega, Below.refl _ _⟩
  go_loopw [1, 5] (fun m i wr => ∃ (k : Nat) (z : Int), k ≤ l.length ∧ i = .int .i64 k ∧ m = .int .i64 z ∧ 0 ≤ z ∧ z ≤ 1048576 ∧ (∀ j (hj : j < l.length), j < k → l[j].name.size ≤ 1048576 ∧ l[j].value.size ≤ 1048576) ∧ Below w.heap.size w wr) (fun _ i _ => l.length - (intOf i).toNat)
  case atStart => exact ⟨0, _, by omega, rfl, rfl, by omega, by omega, fun j hj h => by omega, Below.refl _ _⟩
  case round =>
    obtain ⟨k, z, hk, rfl, rfl, hz0, hz1, hall, hb⟩ := hrel
    have HL : Hid (∀ j (hj : j < l.length), j < k → l[j].name.size ≤ 1048576 ∧ l[j].value.size ≤ 1048576) := ⟨hall⟩
    clear hall
    by_cases h : k < l.length
    · obtain ⟨b, off, rfl, hlt, ho⟩ := HA.out k h
      have ho' := ho.block (w' := wr) (hb.block b hlt)
      obtain ⟨c0, c1, c2, c3, c4, c5, c6⟩ := ho'
      have hsz := HS.out _ (List.getElem_mem h)
      have hcall := szOp_any l[k] z wr hz0 hz1 hsz.1 hsz.2
      unfold OpV.agg at hcall
      have hi0 : (0 : Int) ≤ (k : Int) := by omega
      have hi1 : (k : Int) < (l.length : Int) := by omega
      clear ho hsz
      go_wp2_with (first | (go_at_call 25; refine hcall.mono ?_; rintro e w1 ⟨m, rfl, hm0, hm1, hm2, hb1⟩))
      · go_ret; exact ⟨-1, rfl, fun h => by omega, hb.trans (hb1.mono hb.size)⟩
      · go_roundw
        case rel =>
          refine ⟨k + 1, m, by omega, by go_num, rfl, by omega, by omega, fun j hj hjk => ?_, hb.trans (hb1.mono hb.size)⟩
          rcases Nat.lt_or_ge j k with h' | h'
          · exact HL.out j hj h'
          · obtain rfl : j = k := by omega
            have := hm2 (by omega)
            omega
        case measure => simp [intOf]; omega
    · go_wp2
      go_ret
      refine ⟨_, rfl, fun _ => ⟨by omega, fun o ho => ?_⟩, hb⟩
      obtain ⟨j, hj, rfl⟩ := List.getElem_of_mem ho
      exact HL.out j hj (by omega)
end Go.Proofs.Ytcpgkalafkhlgae.OpR
namespace Go.Proofs.Ytcpgkalafkhlgae.NameR
open Go.ChangeShapes Go.WideShapes Go.ChangeAt Go.RowKit Go.ChangeMaps
set_option linter.unusedVariables false

def letB (c : Int) : Bool := decide (97 ≤ c ∧ c ≤ 122)
def digB (c : Int) : Bool := decide (48 ≤ c ∧ c ≤ 57)
def okP (j : Nat) (c : Int) : Prop := (97 ≤ c ∧ c ≤ 122) ∨ (j ≠ 0 ∧ ((48 ≤ c ∧ c ≤ 57) ∨ c = 95))
def at0 (s : ByteArray) (j : Nat) : Int := (s.data.toList.getD j 0).toNat
def okB (j : Nat) (c : Int) : Bool := decide (97 ≤ c ∧ c ≤ 122) || (decide (j ≠ 0) && (decide (48 ≤ c ∧ c ≤ 57) || decide (c = 95)))
theorem okB_iff (j : Nat) (c : Int) : okB j c = true ↔ okP j c := by simp [okB, okP]
def okUp (s : ByteArray) (k : Nat) : Prop := ∀ j, j < k → okP j (at0 s j)
def okUpB (s : ByteArray) : Nat → Bool
  | 0 => true
  | k + 1 => okUpB s k && okB k (at0 s k)
theorem okUpB_iff (s : ByteArray) : ∀ k, okUpB s k = true ↔ okUp s k
  | 0 => ⟨fun _ j hj => absurd hj (by omega), fun _ => rfl⟩
  | k + 1 => by
    show (okUpB s k && okB k (at0 s k)) = true ↔ _
    rw [Bool.and_eq_true, okUpB_iff s k, okB_iff]
    constructor
    · intro ⟨h, hk⟩ j hj
      by_cases e : j = k
      · subst e; exact hk
      · exact h j (by omega)
    · intro h
      exact ⟨fun j hj => h j (by omega), h k (by omega)⟩
def nmB (s : ByteArray) : Bool := decide (1 ≤ s.size ∧ s.size ≤ 20) && okUpB s s.size
theorem nmB_iff (s : ByteArray) : nmB s = true ↔ 1 ≤ s.size ∧ s.size ≤ 20 ∧ okUp s s.size := by
  unfold nmB; rw [Bool.and_eq_true, decide_eq_true_iff, okUpB_iff, and_assoc]

theorem at0_eq (s : ByteArray) (j : Nat) (h : j < s.size) : at0 s j = (s[j].toNat : Int) := by
  unfold at0
  have h' : j < s.data.toList.length := by simpa using h
  simp only [List.getD_eq_getElem?_getD, List.getElem?_eq_getElem h', Option.getD_some]
  rfl

theorem okUp_succ {s : ByteArray} {k : Nat} (h : okUp s k) (hk : okP k (at0 s k)) : okUp s (k + 1) := by
  intro j hj
  by_cases e : j = k
  · subst e; exact hk
  · exact h j (by omega)

theorem nm_yes {s : ByteArray} (h1 : 1 ≤ s.size) (h2 : s.size ≤ 20) (h : okUp s s.size) : nmB s = true := (nmB_iff s).2 ⟨h1, h2, h⟩
theorem nm_size {s : ByteArray} (h : s.size < 1 ∨ 20 < s.size) : nmB s = false := by
  refine Bool.eq_false_iff.2 fun e => ?_
  have := (nmB_iff s).1 e
  omega
theorem nm_at {s : ByteArray} (k : Nat) (hk : k < s.size) (h : ¬ okP k (at0 s k)) : nmB s = false :=
  Bool.eq_false_iff.2 fun e => h (((nmB_iff s).1 e).2.2 k hk)

theorem ret_b {a b : Bool} (h : a = b) : Ending.returned (.bool a) = .returned (.bool b) := by rw [h]


set_option maxHeartbeats 400000 in
theorem letter_any (c : Int) (w : World) :
    Calls Try.prog 115 #[.int .u8 c] w fun e w' => e = .returned (.bool (letB c)) ∧ w' = w := by
  go_enter Try.func115, Try.ntmps115
  go_wp2
  all_goals go_ret
  all_goals exact ⟨ret_b (by unfold letB; simp <;> omega), rfl⟩

set_option maxHeartbeats 400000 in
theorem digit_any (c : Int) (w : World) :
    Calls Try.prog 116 #[.int .u8 c] w fun e w' => e = .returned (.bool (digB c)) ∧ w' = w := by
  go_enter Try.func116, Try.ntmps116
  go_wp2
  all_goals go_ret
  all_goals exact ⟨ret_b (by unfold digB; simp <;> omega), rfl⟩

set_option maxHeartbeats 1000000 in
theorem spec_any (s : ByteArray) (w : World) (hs : s.size ≤ maxLen) :
    Calls Try.prog 53 #[.string s] w fun e w' => e = .returned (.bool (nmB s)) ∧ w' = w := by
  unfold maxLen at hs
  by_cases h1 : s.size < 1
  · go_enter Try.func53, Try.ntmps53
    go_wp2
    go_ret
    exact ⟨ret_b (nm_size (.inl h1)).symm, rfl⟩
  by_cases h2 : 20 < s.size
  · go_enter Try.func53, Try.ntmps53
    go_wp2
    go_ret
    exact ⟨ret_b (nm_size (.inr h2)).symm, rfl⟩
  go_enter Try.func53, Try.ntmps53
  go_wp2
  go_loop [3] (fun i => ∃ k : Nat, k ≤ s.size ∧ i = .int .i64 k ∧ okUp s k) (fun i => s.size - (intOf i).toNat)
  case atStart => exact ⟨0, Nat.zero_le _, rfl, fun j hj => absurd hj (by omega)⟩
  case round =>
    obtain ⟨k, hk, rfl, hup⟩ := hrel
    by_cases hlt : k < s.size
    · have ha : Hid (at0 s k = (s[k].toNat : Int)) := at0_eq s k hlt
      by_cases hk0 : k = 0
      · subst hk0
        go_wp2
        all_goals first
          | (go_round
             case rel => exact ⟨0 + 1, by omega, by go_num, okUp_succ hup (by go_light; rw [ha.out]; unfold okP; simp at *; omega)⟩
             case measure => simp [intOf]; omega)
          | (go_ret
             exact ⟨ret_b (nm_at 0 hlt (by go_light; rw [ha.out]; unfold okP; simp at *; omega)).symm, rfl⟩)
      · go_wp2
        all_goals first
          | (go_round
             case rel => exact ⟨k + 1, by omega, by go_num, okUp_succ hup (by go_light; rw [ha.out]; unfold okP; simp at *; omega)⟩
             case measure => simp [intOf]; omega)
          | (go_ret
             exact ⟨ret_b (nm_at k hlt (by go_light; rw [ha.out]; unfold okP; simp at *; omega)).symm, rfl⟩)
    · go_wp2
      go_ret
      have e : k = s.size := by omega
      exact ⟨ret_b (nm_yes (by omega) (by omega) (e ▸ hup)).symm, rfl⟩

theorem let_yes {c : Int} (h : letB c = true) : 97 ≤ c ∧ c ≤ 122 := of_decide_eq_true h
theorem let_no {c : Int} (h : letB c = false) : ¬ (97 ≤ c ∧ c ≤ 122) := of_decide_eq_false h
theorem dig_yes {c : Int} (h : digB c = true) : 48 ≤ c ∧ c ≤ 57 := of_decide_eq_true h
theorem dig_no {c : Int} (h : digB c = false) : ¬ (48 ≤ c ∧ c ≤ 57) := of_decide_eq_false h

theorem ok_of {s : ByteArray} {k : Nat} {c : Int} (H3 : 97 ≤ at0 s 0 ∧ at0 s 0 ≤ 122) (ha : at0 s k = c) (h : letB c = true ∨ digB c = true ∨ (c != 95) = false) : okP k (at0 s k) := by
  by_cases e : k = 0
  · subst e; exact .inl H3
  · rw [ha]
    rcases h with h | h | h
    · exact .inl (let_yes h)
    · exact .inr ⟨e, .inl (dig_yes h)⟩
    · exact .inr ⟨e, .inr (by simpa using h)⟩
theorem no_of {s : ByteArray} {k : Nat} {c : Int} (ha : at0 s k = c) (h1 : letB c = false) (h2 : digB c = false) (h3 : (c != 95) = true) : ¬ okP k (at0 s k) := by
  rw [ha]
  have := let_no h1; have := dig_no h2
  have : c ≠ 95 := by simpa using h3
  unfold okP; omega

set_option maxHeartbeats 1000000 in
theorem impl_any (s : ByteArray) (w : World) (hs : s.size ≤ maxLen) :
    Calls Try.prog 93 #[.string s] w fun e w' => e = .returned (.bool (nmB s)) ∧ w' = w := by
  unfold maxLen at hs
  by_cases h1 : s.size < 1
  · go_enter Try.func93, Try.ntmps93
    go_wp2
    go_ret
    exact ⟨ret_b (nm_size (.inl h1)).symm, rfl⟩
  by_cases h2 : 20 < s.size
  · go_enter Try.func93, Try.ntmps93
    go_wp2
    go_ret
    exact ⟨ret_b (nm_size (.inr h2)).symm, rfl⟩
  have h0 : 0 < s.size := by omega
  by_cases h3 : letB (s[0].toNat : Int) = true
  · have H3 : Hid (97 ≤ at0 s 0 ∧ at0 s 0 ≤ 122) := by rw [at0_eq s 0 h0]; exact let_yes h3
    go_enter Try.func93, Try.ntmps93
    go_wp2_with (first | (go_at_call 115; refine (letter_any _ _).mono ?_; rintro e w' ⟨rfl, rfl⟩) | (go_at_call 116; refine (digit_any _ _).mono ?_; rintro e w' ⟨rfl, rfl⟩))
    go_loop [21] (fun i => ∃ k : Nat, k ≤ s.size ∧ i = .int .i64 k ∧ okUp s k) (fun i => s.size - (intOf i).toNat)
    case atStart => exact ⟨0, Nat.zero_le _, rfl, fun j hj => absurd hj (by omega)⟩
    case round =>
      obtain ⟨k, hk, rfl, hup⟩ := hrel
      by_cases hlt : k < s.size
      · have ha : Hid (at0 s k = (s[k].toNat : Int)) := at0_eq s k hlt
        cases hl : letB (s[k].toNat : Int) <;> cases hd : digB (s[k].toNat : Int)
        all_goals
          go_wp2_with (first | (go_at_call 115; refine (letter_any _ _).mono ?_; rintro e w' ⟨rfl, rfl⟩) | (go_at_call 116; refine (digit_any _ _).mono ?_; rintro e w' ⟨rfl, rfl⟩))
        all_goals first
          | (go_round
             case rel => exact ⟨k + 1, by omega, by go_num, okUp_succ hup (ok_of H3.out ha.out (by go_light; simp_all))⟩
             case measure => simp [intOf]; omega)
          | (go_ret
             exact ⟨ret_b (nm_at k hlt (no_of ha.out hl hd (by go_light; simp_all))).symm, rfl⟩)
      · go_wp2
        go_ret
        have e : k = s.size := by omega
        exact ⟨ret_b (nm_yes (by omega) (by omega) (e ▸ hup)).symm, rfl⟩
  · have H3 : ¬ okP 0 (at0 s 0) := by
      rw [at0_eq s 0 h0]
      have := let_no (Bool.eq_false_iff.mpr h3)
      unfold okP; omega
    have h3' : letB (s[0].toNat : Int) = false := Bool.eq_false_iff.mpr h3
    go_enter Try.func93, Try.ntmps93
    go_wp2_with (first | (go_at_call 115; refine (letter_any _ _).mono ?_; rintro e w' ⟨rfl, rfl⟩))
    go_ret
    exact ⟨ret_b (nm_at 0 h0 H3).symm, rfl⟩

end Go.Proofs.Ytcpgkalafkhlgae.NameR

namespace Go.Proofs.Ytcpgkalafkhlgae
open Go.ChangeShapes Go.WideShapes Go.ChangeAt Go.RowKit Go.ChangeMaps
end Go.Proofs.Ytcpgkalafkhlgae
namespace Go.Proofs.Ytcpgkalafkhlgae.OpR
open Go.ChangeShapes Go.WideShapes Go.ChangeAt Go.RowKit
set_option linter.unusedVariables false

def isIn (n lo hi : Int) : Bool := decide (lo ≤ n) && decide (n ≤ hi)
/-- What is asked of an op besides its name, by its kind. -/
def kindRight (o : OpV) : Bool := if o.kind = 1 then isIn o.parent 0 1000000 && o.value.toList.isEmpty else if o.kind = 2 then decide (o.parent = 0) && decide ((o.value.size : Int) ≤ 40) else false
def opRight (o : OpV) : Bool := isIn o.time 1 1000000 && isIn o.repl 1 50 && isIn o.node 2 1000000 && NameR.nmB o.name && kindRight o

theorem ret_bool {a b : Bool} (h : a = b) : Ending.returned (.bool a) = .returned (.bool b) := by rw [h]
set_option maxHeartbeats 400000 in
theorem is_any (n lo hi : Int) (w : World) : Calls Try.prog 90 #[.int .i64 n, .int .i64 lo, .int .i64 hi] w fun e w' => e = .returned (.bool (isIn n lo hi)) ∧ w = w' := by
  go_enter Try.func90, Try.ntmps90
  go_wp2
  · go_ret; rename_i h; exact ⟨ret_bool (by simp [isIn, h]), rfl⟩
  · go_ret; rename_i h; exact ⟨ret_bool (by unfold isIn; rw [decide_eq_false (by omega)]; rfl), rfl⟩
set_option maxHeartbeats 400000 in
theorem node_any (n : Int) (w : World) : Calls Try.prog 52 #[.int .i64 n] w fun e w' => e = .returned (.bool (isIn n 2 1000000)) ∧ w = w' := by
  go_enter Try.func52, Try.ntmps52
  go_wp2_with (first | (go_at_call 90; refine (is_any _ _ _ _).mono ?_; rintro e w1 ⟨rfl, rfl⟩))
  go_ret
  exact ⟨rfl, rfl⟩
set_option maxRecDepth 100000 in
set_option maxHeartbeats 400000 in
theorem sOp_any (o : OpV) (w : World) (hn : o.name.size ≤ maxLen) (hv : o.value.size ≤ maxLen) :
    Calls Try.prog 63 #[o.agg] w fun e w' => e = .returned (.bool (opRight o)) ∧ Below w.heap.size w w' := by
  have hN := fun w => NameR.spec_any o.name w hn
  unfold maxLen at hv
  unfold OpV.agg
  go_enter Try.func63, Try.ntmps63
  go_wp2_with (first | (go_at_call 90; refine (is_any _ _ _ _).mono ?_; rintro e w1 ⟨rfl, rfl⟩) | (go_at_call 52; refine (node_any _ _).mono ?_; rintro e w1 ⟨rfl, rfl⟩) | (go_at_call 53; refine (hN _).mono ?_; rintro e w1 ⟨rfl, hw1⟩))
  all_goals (go_ret; refine ⟨ret_bool ?_, (Below.refl _ _).alloc (Nat.le_refl _) _⟩; clear hN hn)
  all_goals (simp_all [opRight, kindRight]; done)

/-- Whether a stamp is ahead of another one. -/
def ahead (a b : OpV) : Bool := decide (a.time < b.time) || (decide (a.time = b.time) && decide (a.repl < b.repl))
def stamp (a b : OpV) : Bool := decide (a.time = b.time) && (a.repl == b.repl)
set_option maxRecDepth 100000 in
set_option maxHeartbeats 400000 in
theorem ahead_any (a b : OpV) (w : World) :
    Calls Try.prog 85 #[a.agg, b.agg] w fun e w' => e = .returned (.bool (ahead a b)) ∧ Below w.heap.size w w' := by
  unfold OpV.agg
  go_enter Try.func85, Try.ntmps85
  go_wp2
  all_goals (go_ret; refine ⟨ret_bool ?_, ((Below.refl _ _).alloc (Nat.le_refl _) _).alloc (by simp) _⟩)
  all_goals (unfold ahead; simp_all; done)
set_option maxRecDepth 100000 in
set_option maxHeartbeats 400000 in
theorem stamp_any (a b : OpV) (w : World) :
    Calls Try.prog 78 #[a.agg, b.agg] w fun e w' => e = .returned (.bool (stamp a b)) ∧ Below w.heap.size w w' := by
  unfold OpV.agg
  go_enter Try.func78, Try.ntmps78
  go_wp2
  all_goals (go_ret; refine ⟨ret_bool ?_, ((Below.refl _ _).alloc (Nat.le_refl _) _).alloc (by simp) _⟩)
  all_goals (unfold stamp; simp_all; done)

/-- Whether stamps rise. -/
def Rises (l : List OpV) : Prop := ∀ i (h : i + 1 < l.length), ahead l[i] l[i + 1] = true
/-- Whether the op behind the i-th is behind it in stamp. -/
def riseAt (l : List OpV) (i : Nat) : Bool := if h : i + 1 < l.length then ahead l[i] l[i + 1] else true
def rises (l : List OpV) : Bool := allTo l.length (riseAt l)
theorem rises_iff (l : List OpV) : rises l = true ↔ Rises l := by
  unfold rises
  rw [allTo_iff]
  constructor
  · intro h i hi
    have h1 := h i (by omega)
    unfold riseAt at h1
    rw [dif_pos hi] at h1
    exact h1
  · intro h i hi
    unfold riseAt
    by_cases h1 : i + 1 < l.length
    · rw [dif_pos h1]; exact h i h1
    · rw [dif_neg h1]
theorem rises_yes {l : List OpV} (h : Rises l) : rises l = true := (rises_iff l).2 h
theorem rises_no {l : List OpV} (h : ¬ Rises l) : rises l = false := bool_no (rises_iff l) h
/-- Whether each op is right. -/
def allRight (l : List OpV) : Bool := allTo l.length fun i => if h : i < l.length then opRight l[i] else true
theorem allRight_iff (l : List OpV) : allRight l = true ↔ ∀ i (h : i < l.length), opRight l[i] = true := by
  unfold allRight
  rw [allTo_iff]
  constructor
  · intro h i hi
    have h1 := h i hi
    rw [dif_pos hi] at h1
    exact h1
  · intro h i hi
    rw [dif_pos hi]
    exact h i hi

set_option maxRecDepth 100000 in
set_option maxHeartbeats 400000 in
theorem rises_any (l : List OpV) (ao : Option Addr) (cap : Nat) (w : World) (hl : l.length ≤ maxLen) (hA : OpsAt w ao l) :
    Calls Try.prog 84 #[.slice ao l.length cap] w fun e w' => e = .returned (.bool (rises l)) ∧ Below w.heap.size w w' := by
  unfold maxLen at hl
  have HA : Hid (OpsAt w ao l) := ⟨hA⟩
  clear hA
  go_enter Try.func84, Try.ntmps84
  go_wp2
  go_loopw [3] (fun i wr => ∃ k : Nat, (k ≤ l.length ∨ k = 0) ∧ i = .int .i64 ((k : Int) + 1) ∧ (∀ j (h : j + 1 < l.length), j < k → ahead l[j] l[j + 1] = true) ∧ Below w.heap.size w wr) (fun i _ => l.length - (intOf i).toNat)
  case atStart => exact ⟨0, .inr rfl, by go_num, fun j h hj => by omega, Below.refl _ _⟩
  case round =>
    obtain ⟨k, hk, rfl, hal, hb⟩ := hrel
    have HL : Hid (∀ j (h : j + 1 < l.length), j < k → ahead l[j] l[j + 1] = true) := ⟨hal⟩
    clear hal hk
    by_cases h : k + 1 < l.length
    · obtain ⟨b, off, rfl, hlt, ho⟩ := HA.out (k + 1) h
      have hT : (((k : Int) + 1).toNat) = k + 1 := by omega
      have hi3 : (0 : Int) ≤ (k : Int) + 1 := by omega
      have hW : IntKind.i64.wrap (k : Int) = (k : Int) := by rw [IntKind.wrap_i64]; omega
      have hW2 : wrap64 (k : Int) = (k : Int) := by unfold wrap64; omega
      obtain ⟨c0, c1, c2, c3, c4, c5, c6⟩ := ho.block (w' := wr) (hb.block b hlt)
      obtain ⟨b2, off2, hq, hlt2, ho2⟩ := HA.out k (by omega)
      cases hq
      obtain ⟨d0, d1, d2, d3, d4, d5, d6⟩ := ho2.block (w' := wr) (hb.block b hlt)
      have hcall := ahead_any l[k] l[k + 1] wr.drew
      unfold OpV.agg at hcall
      have hi0 : (0 : Int) ≤ (k : Int) := by omega
      have hi1 : (k : Int) + 1 < (l.length : Int) := by omega
      have hi2 : (k : Int) < (l.length : Int) := by omega
      clear ho ho2
      go_wp2
      go_region_with (go_at_call 85; refine hcall.mono ?_; rintro e w1 ⟨rfl, hb1⟩)
      all_goals (
        clear hcall c0 c1 c2 c3 c4 c5 c6 d0 d1 d2 d3 d4 d5 d6
        cases ha : ahead l[k] l[k + 1]
        · go_wp2
          go_ret
          exact ⟨ret_bool (rises_no fun hr => by rw [hr k h] at ha; cases ha).symm, hb.drew.trans (hb1.mono hb.size)⟩
        · go_wp2
          go_roundw
          case rel =>
            refine ⟨k + 1, .inl (by omega), by go_num, fun j hj hjk => ?_, hb.drew.trans (hb1.mono hb.size)⟩
            rcases Nat.lt_or_ge j k with h' | h'
            · exact HL.out j hj h'
            · obtain rfl : j = k := by omega
              exact ha
          case measure => simp [intOf]; omega)
    · go_wp2
      go_ret
      exact ⟨ret_bool (rises_yes fun j hj => HL.out j hj (by omega)).symm, hb⟩
end Go.Proofs.Ytcpgkalafkhlgae.OpR
namespace Go.Proofs.Ytcpgkalafkhlgae.OpR
open Go.ChangeShapes Go.WideShapes Go.ChangeAt Go.RowKit
set_option linter.unusedVariables false

/-- What every name and value of a row keeps to. -/
def Sized (l : List OpV) : Prop := ∀ o ∈ l, o.name.size ≤ maxLen ∧ o.value.size ≤ maxLen
def LogR (l : List OpV) : Prop := (∀ i (h : i < l.length), opRight l[i] = true) ∧ l.length ≤ 150 ∧ Rises l
def logRight (l : List OpV) : Bool := allRight l && (decide (l.length ≤ 150) && rises l)
theorem log_iff (l : List OpV) : logRight l = true ↔ LogR l := by
  unfold logRight LogR
  rw [Bool.and_eq_true, Bool.and_eq_true, allRight_iff, decide_eq_true_iff, rises_iff]
theorem log_yes {l : List OpV} (h : LogR l) : logRight l = true := (log_iff l).2 h
theorem log_no {l : List OpV} (h : ¬ LogR l) : logRight l = false := bool_no (log_iff l) h
theorem log_and {l : List OpV} (h : ∀ i (h : i < l.length), opRight l[i] = true) : logRight l = (decide (l.length ≤ 150) && rises l) := by
  by_cases h1 : l.length ≤ 150
  · by_cases h2 : Rises l
    · rw [log_yes ⟨h, h1, h2⟩, rises_yes h2, decide_eq_true h1]; rfl
    · rw [log_no fun hh => h2 hh.2.2, rises_no h2, decide_eq_true h1]; rfl
  · rw [log_no fun hh => h1 hh.2.1, decide_eq_false h1]; rfl

set_option maxRecDepth 100000 in
set_option maxHeartbeats 400000 in
theorem log_any (l : List OpV) (ao : Option Addr) (cap : Nat) (w : World) (hl : l.length ≤ maxLen) (hA : OpsAt w ao l) (hS : Sized l) :
    Calls Try.prog 40 #[.slice ao l.length cap] w fun e w' => e = .returned (.bool (logRight l)) ∧ Below w.heap.size w w' := by
  have hl' := hl
  unfold maxLen at hl
  have HA : Hid (OpsAt w ao l) := ⟨hA⟩
  have HS : Hid (Sized l) := ⟨hS⟩
  clear hA hS
  go_enter Try.func40, Try.ntmps40
  go_wp2
  go_loopw [3] (fun i wr => ∃ k : Nat, k ≤ l.length ∧ i = .int .i64 k ∧ (∀ j (h : j < l.length), j < k → opRight l[j] = true) ∧ Below w.heap.size w wr) (fun i _ => l.length - (intOf i).toNat)
  case atStart => exact ⟨0, by omega, rfl, fun j h hj => by omega, Below.refl _ _⟩
  case round =>
    obtain ⟨k, hk, rfl, hal, hb⟩ := hrel
    have HL : Hid (∀ j (h : j < l.length), j < k → opRight l[j] = true) := ⟨hal⟩
    clear hal
    by_cases h : k < l.length
    · obtain ⟨b, off, rfl, hlt, ho⟩ := HA.out k h
      obtain ⟨c0, c1, c2, c3, c4, c5, c6⟩ := ho.block (w' := wr) (hb.block b hlt)
      have hsz := HS.out _ (List.getElem_mem h)
      have hcall := sOp_any l[k] wr hsz.1 hsz.2
      unfold OpV.agg at hcall
      have hi0 : (0 : Int) ≤ (k : Int) := by omega
      have hi1 : (k : Int) < (l.length : Int) := by omega
      clear ho hsz
      go_wp2_with (first | (go_at_call 63; refine hcall.mono ?_; rintro e w1 ⟨rfl, hb1⟩; clear c0 c1 c2 c3 c4 c5 c6 hcall))
      · go_ret
        rename_i hr
        exact ⟨ret_bool (log_no fun hh => by simp [hh.1 k h] at hr).symm, hb.trans (hb1.mono hb.size)⟩
      · rename_i hr
        go_roundw
        case rel =>
          refine ⟨k + 1, by omega, by go_num, fun j hj hjk => ?_, hb.trans (hb1.mono hb.size)⟩
          rcases Nat.lt_or_ge j k with h' | h'
          · exact HL.out j hj h'
          · obtain rfl : j = k := by omega
            simpa using hr
        case measure => simp [intOf]; omega
    · have hrs := rises_any l ao cap wr hl' (HA.out.stays hb)
      have hland := log_and (l := l) (fun j hj => HL.out j hj (by omega))
      have HD : Hid (logRight l = (decide (l.length ≤ 150) && rises l)) := ⟨hland⟩
      clear hland
      go_wp2_with (first | (go_at_call 84; refine hrs.mono ?_; rintro e w1 ⟨rfl, hb1⟩))
      · go_ret
        rename_i h5 _ _
        exact ⟨ret_bool (by rw [HD.out, decide_eq_true (by omega)]; rfl), hb.trans (hb1.mono hb.size)⟩
      · go_ret
        exact ⟨ret_bool (by rw [HD.out, decide_eq_false (by omega)]; rfl), hb⟩

/-- What is asked of a list of ops. -/
def OpsR (l : List OpV) : Prop := l.length ≤ 150 ∧ (∀ i (h : i < l.length), opRight l[i] = true) ∧ ∀ i k (h : i < l.length) (hk : k < i), stamp l[k] l[i] = false
/-- Whether two places hold other stamps. -/
def apartAt (l : List OpV) (i k : Nat) : Bool := if h : i < l.length ∧ k < i then !stamp (l[k]'(Nat.lt_trans h.2 h.1)) (l[i]'h.1) else true
def allApart (l : List OpV) : Bool := allTo l.length fun i => allTo i (apartAt l i)
theorem allApart_iff (l : List OpV) : allApart l = true ↔ ∀ i k (h : i < l.length) (hk : k < i), stamp l[k] l[i] = false := by
  unfold allApart
  rw [allTo_iff]
  constructor
  · intro h i k hi hk
    have h1 := (allTo_iff _ _).1 (h i hi) k hk
    unfold apartAt at h1
    rw [dif_pos ⟨hi, hk⟩] at h1
    simpa using h1
  · intro h i hi
    rw [allTo_iff]
    intro k hk
    unfold apartAt
    rw [dif_pos ⟨hi, hk⟩, h i k hi hk]
    rfl
def opsRight (l : List OpV) : Bool := decide (l.length ≤ 150) && (allRight l && allApart l)
theorem ops_iff (l : List OpV) : opsRight l = true ↔ OpsR l := by
  unfold opsRight OpsR
  rw [Bool.and_eq_true, Bool.and_eq_true, allRight_iff, decide_eq_true_iff, allApart_iff]
theorem ops_yes {l : List OpV} (h : OpsR l) : opsRight l = true := (ops_iff l).2 h
theorem ops_no {l : List OpV} (h : ¬ OpsR l) : opsRight l = false := bool_no (ops_iff l) h

set_option maxRecDepth 100000 in
set_option maxHeartbeats 1000000 in
theorem sOps_any (l : List OpV) (ao : Option Addr) (cap : Nat) (w : World) (hl : l.length ≤ maxLen) (hA : OpsAt w ao l) (hS : Sized l) :
    Calls Try.prog 36 #[.slice ao l.length cap] w fun e w' => e = .returned (.bool (opsRight l)) ∧ Below w.heap.size w w' := by
  unfold maxLen at hl
  have HA : Hid (OpsAt w ao l) := ⟨hA⟩
  have HS : Hid (Sized l) := ⟨hS⟩
  clear hA hS
  by_cases h150 : 150 < l.length
  · go_enter Try.func36, Try.ntmps36
    go_wp2
    go_ret
    exact ⟨ret_bool (ops_no fun hh => by have := hh.1; omega).symm, Below.refl _ _⟩
  go_enter Try.func36, Try.ntmps36
  go_wp2
  go_loopw [3] (fun i wr => ∃ k : Nat, k ≤ l.length ∧ i = .int .i64 k ∧ (∀ j (h : j < l.length), j < k → opRight l[j] = true) ∧ (∀ i k' (h : i < l.length) (hk : k' < i), i < k → stamp l[k'] l[i] = false) ∧ Below w.heap.size w wr) (fun i _ => l.length - (intOf i).toNat)
  case atStart => exact ⟨0, by omega, rfl, fun j h hj => by omega, fun i k' h hk hi => by omega, Below.refl _ _⟩
  case round =>
    obtain ⟨k, hk, rfl, hal, hst, hb⟩ := hrel
    have HL : Hid (∀ j (h : j < l.length), j < k → opRight l[j] = true) := ⟨hal⟩
    have HT : Hid (∀ i k' (h : i < l.length) (hk : k' < i), i < k → stamp l[k'] l[i] = false) := ⟨hst⟩
    clear hal hst
    by_cases h : k < l.length
    · obtain ⟨b, off, rfl, hlt, ho⟩ := HA.out k h
      obtain ⟨c0, c1, c2, c3, c4, c5, c6⟩ := ho.block (w' := wr) (hb.block b hlt)
      have HO : Hid (OpAt w b (off + k * 7) l[k]) := ⟨ho⟩
      have hsz := HS.out _ (List.getElem_mem h)
      have hcall := sOp_any l[k] wr hsz.1 hsz.2
      unfold OpV.agg at hcall
      have hi0 : (0 : Int) ≤ (k : Int) := by omega
      have hi1 : (k : Int) < (l.length : Int) := by omega
      clear ho hsz
      go_wp2_with (first | (go_at_call 63; refine hcall.mono ?_; rintro e w1 ⟨rfl, hb1⟩; have hb1' := hb.trans (hb1.mono hb.size); clear c0 c1 c2 c3 c4 c5 c6 hcall))
      · go_ret
        rename_i hr
        exact ⟨ret_bool (ops_no fun hh => by simp [hh.2.1 k h] at hr).symm, hb1'⟩
      · rename_i hr
        have HR : Hid ((!opRight l[k]) = false) := ⟨hr⟩
        clear hr
        go_loopw [4] (fun q wi => ∃ j : Nat, j ≤ k ∧ q = .int .i64 j ∧ (∀ m (hm : m < k), m < j → stamp l[m] l[k] = false) ∧ Below w.heap.size w wi) (fun q _ => k - (intOf q).toNat)
        case atStart => exact ⟨0, by omega, rfl, fun m hm hj => by omega, hb1'⟩
        case round =>
          obtain ⟨j, hj, rfl, hsj, hbi⟩ := hrel
          have HJ : Hid (∀ m (hm : m < k), m < j → stamp l[m] l[k] = false) := ⟨hsj⟩
          clear hsj
          by_cases hjk : j < k
          · obtain ⟨c0, c1, c2, c3, c4, c5, c6⟩ := HO.out.block (w' := wr) (hbi.block b hlt)
            obtain ⟨b2, off2, hq, hlt2, ho2⟩ := HA.out j (by omega)
            cases hq
            obtain ⟨d0, d1, d2, d3, d4, d5, d6⟩ := ho2.block (w' := wr) (hbi.block b hlt)
            have hcall := stamp_any l[j] l[k] wr.drew
            unfold OpV.agg at hcall
            have hj0 : (0 : Int) ≤ (j : Int) := by omega
            have hj1 : (j : Int) < (l.length : Int) := by omega
            have hj2 : (j : Int) < (k : Int) := by omega
            clear ho2 hk hb hb1 hb1'
            go_wp2
            go_region_with (go_at_call 78; refine hcall.mono ?_; rintro e w2 ⟨rfl, hb2⟩)
            all_goals (
              clear hcall c0 c1 c2 c3 c4 c5 c6 d0 d1 d2 d3 d4 d5 d6
              cases ha : stamp l[j] l[k]
              · go_wp2
                go_roundw
                case rel =>
                  refine ⟨j + 1, by omega, by go_num, fun m hm hmj => ?_, hbi.drew.trans (hb2.mono hbi.size)⟩
                  rcases Nat.lt_or_ge m j with h' | h'
                  · exact HJ.out m hm h'
                  · obtain rfl : m = j := by omega
                    exact ha
                case measure => simp [intOf]; omega
              · go_wp2
                go_ret
                exact ⟨ret_bool (ops_no fun hh => by rw [hh.2.2 k j h hjk] at ha; cases ha).symm, hbi.drew.trans (hb2.mono hbi.size)⟩)
          · go_wp2
            go_roundw
            case rel =>
              refine ⟨k + 1, by omega, by go_num, fun m hm hmk => ?_, fun i k' hi hk' hik => ?_, hbi⟩
              · rcases Nat.lt_or_ge m k with h' | h'
                · exact HL.out m hm h'
                · obtain rfl : m = k := by omega
                  simpa using HR.out
              · rcases Nat.lt_or_ge i k with h' | h'
                · exact HT.out i k' hi hk' h'
                · obtain rfl : i = k := by omega
                  exact HJ.out k' hk' (by omega)
            case measure => simp [intOf]; omega
    · go_wp2
      go_ret
      exact ⟨ret_bool (ops_yes ⟨by omega, fun i hi => HL.out i hi (by omega), fun i k' hi hk' => HT.out i k' hi hk' (by omega)⟩).symm, hb⟩
end Go.Proofs.Ytcpgkalafkhlgae.OpR
namespace Go.Proofs.Ytcpgkalafkhlgae.OpR
open Go.ChangeShapes Go.WideShapes Go.ChangeAt Go.RowKit
set_option linter.unusedVariables false

set_option maxHeartbeats 400000 in
theorem repl_any (n : Int) (w : World) : Calls Try.prog 98 #[.int .i64 n] w fun e w' => e = .returned (.bool (isIn n 1 50)) ∧ w = w' := by
  go_enter Try.func98, Try.ntmps98
  go_wp2
  · go_ret; rename_i h; exact ⟨ret_bool (by simp [isIn, h]), rfl⟩
  · go_ret; rename_i h; exact ⟨ret_bool (by unfold isIn; rw [decide_eq_false (by omega)]; rfl), rfl⟩
set_option maxHeartbeats 400000 in
theorem iNode_any (n : Int) (w : World) : Calls Try.prog 92 #[.int .i64 n] w fun e w' => e = .returned (.bool (isIn n 2 1000000)) ∧ w = w' := by
  go_enter Try.func92, Try.ntmps92
  go_wp2
  · go_ret; rename_i h; exact ⟨ret_bool (by simp [isIn, h]), rfl⟩
  · go_ret; rename_i h; exact ⟨ret_bool (by unfold isIn; rw [decide_eq_false (by omega)]; rfl), rfl⟩
set_option maxRecDepth 100000 in
set_option maxHeartbeats 400000 in
theorem iOp_any (o : OpV) (w : World) (hn : o.name.size ≤ maxLen) (hv : o.value.size ≤ maxLen) :
    Calls Try.prog 65 #[o.agg] w fun e w' => e = .returned (.bool (opRight o)) ∧ Below w.heap.size w w' := by
  have hN := fun w => NameR.impl_any o.name w hn
  unfold maxLen at hv
  unfold OpV.agg
  go_enter Try.func65, Try.ntmps65
  go_wp2_with (first | (go_at_call 98; refine (repl_any _ _).mono ?_; rintro e w1 ⟨rfl, rfl⟩) | (go_at_call 92; refine (iNode_any _ _).mono ?_; rintro e w1 ⟨rfl, rfl⟩) | (go_at_call 93; refine (hN _).mono ?_; rintro e w1 ⟨rfl, hw1⟩))
  all_goals (go_ret; refine ⟨ret_bool ?_, (Below.refl _ _).alloc (Nat.le_refl _) _⟩; clear hN hn)
  all_goals (clear hv; first | (simp_all [opRight, kindRight, isIn]; done) | (simp_all [opRight, kindRight, isIn]; intros; first | omega | (simp_all; done) | (simp_all; omega)))

set_option maxRecDepth 100000 in
set_option maxHeartbeats 400000 in
theorem iAhead_any (a b : OpV) (w : World) :
    Calls Try.prog 47 #[a.agg, b.agg] w fun e w' => e = .returned (.bool (ahead a b)) ∧ Below w.heap.size w w' := by
  unfold OpV.agg
  go_enter Try.func47, Try.ntmps47
  go_wp2
  all_goals (go_ret; refine ⟨ret_bool ?_, ((Below.refl _ _).alloc (Nat.le_refl _) _).alloc (by simp) _⟩)
  all_goals (unfold ahead; simp_all; done)
set_option maxRecDepth 100000 in
set_option maxHeartbeats 400000 in
theorem iRises_any (l : List OpV) (ao : Option Addr) (cap : Nat) (w : World) (hl : l.length ≤ maxLen) (hA : OpsAt w ao l) :
    Calls Try.prog 87 #[.slice ao l.length cap] w fun e w' => e = .returned (.bool (rises l)) ∧ Below w.heap.size w w' := by
  unfold maxLen at hl
  have HA : Hid (OpsAt w ao l) := ⟨hA⟩
  clear hA
  go_enter Try.func87, Try.ntmps87
  go_wp2
  go_loopw [3] (fun i wr => ∃ k : Nat, (k ≤ l.length ∨ k = 0) ∧ i = .int .i64 ((k : Int) + 1) ∧ (∀ j (h : j + 1 < l.length), j < k → ahead l[j] l[j + 1] = true) ∧ Below w.heap.size w wr) (fun i _ => l.length - (intOf i).toNat)
  case atStart => exact ⟨0, .inr rfl, by go_num, fun j h hj => by omega, Below.refl _ _⟩
  case round =>
    obtain ⟨k, hk, rfl, hal, hb⟩ := hrel
    have HL : Hid (∀ j (h : j + 1 < l.length), j < k → ahead l[j] l[j + 1] = true) := ⟨hal⟩
    clear hal hk
    by_cases h : k + 1 < l.length
    · obtain ⟨b, off, rfl, hlt, ho⟩ := HA.out (k + 1) h
      have hT : (((k : Int) + 1).toNat) = k + 1 := by omega
      have hi3 : (0 : Int) ≤ (k : Int) + 1 := by omega
      have hW : IntKind.i64.wrap (k : Int) = (k : Int) := by rw [IntKind.wrap_i64]; omega
      have hW2 : wrap64 (k : Int) = (k : Int) := by unfold wrap64; omega
      obtain ⟨c0, c1, c2, c3, c4, c5, c6⟩ := ho.block (w' := wr) (hb.block b hlt)
      obtain ⟨b2, off2, hq, hlt2, ho2⟩ := HA.out k (by omega)
      cases hq
      obtain ⟨d0, d1, d2, d3, d4, d5, d6⟩ := ho2.block (w' := wr) (hb.block b hlt)
      have hcall := iAhead_any l[k] l[k + 1] wr.drew
      unfold OpV.agg at hcall
      have hi0 : (0 : Int) ≤ (k : Int) := by omega
      have hi1 : (k : Int) + 1 < (l.length : Int) := by omega
      have hi2 : (k : Int) < (l.length : Int) := by omega
      clear ho ho2
      go_wp2
      go_region_with (go_at_call 47; refine hcall.mono ?_; rintro e w1 ⟨rfl, hb1⟩)
      all_goals (
        clear hcall c0 c1 c2 c3 c4 c5 c6 d0 d1 d2 d3 d4 d5 d6
        cases ha : ahead l[k] l[k + 1]
        · go_wp2
          go_ret
          exact ⟨ret_bool (rises_no fun hr => by rw [hr k h] at ha; cases ha).symm, hb.drew.trans (hb1.mono hb.size)⟩
        · go_wp2
          go_roundw
          case rel =>
            refine ⟨k + 1, .inl (by omega), by go_num, fun j hj hjk => ?_, hb.drew.trans (hb1.mono hb.size)⟩
            rcases Nat.lt_or_ge j k with h' | h'
            · exact HL.out j hj h'
            · obtain rfl : j = k := by omega
              exact ha
          case measure => simp [intOf]; omega)
    · go_wp2
      go_ret
      exact ⟨ret_bool (rises_yes fun j hj => HL.out j hj (by omega)).symm, hb⟩

/-- What impl asks of each op of a row. -/
def EachR (l : List OpV) : Prop := l.length ≤ 150 ∧ ∀ i (h : i < l.length), opRight l[i] = true
def eachR (l : List OpV) : Bool := decide (l.length ≤ 150) && allRight l
theorem each_iff (l : List OpV) : eachR l = true ↔ EachR l := by
  unfold eachR EachR
  rw [Bool.and_eq_true, allRight_iff, decide_eq_true_iff]
theorem each_yes {l : List OpV} (h : EachR l) : eachR l = true := (each_iff l).2 h
theorem each_no {l : List OpV} (h : ¬ EachR l) : eachR l = false := bool_no (each_iff l) h
set_option maxRecDepth 100000 in
set_option maxHeartbeats 400000 in
theorem each_any (l : List OpV) (ao : Option Addr) (cap : Nat) (w : World) (hl : l.length ≤ maxLen) (hA : OpsAt w ao l) (hS : Sized l) :
    Calls Try.prog 86 #[.slice ao l.length cap] w fun e w' => e = .returned (.bool (eachR l)) ∧ Below w.heap.size w w' := by
  have hl' := hl
  unfold maxLen at hl
  have HA : Hid (OpsAt w ao l) := ⟨hA⟩
  have HS : Hid (Sized l) := ⟨hS⟩
  clear hA hS
  by_cases h150 : 150 < l.length
  · go_enter Try.func86, Try.ntmps86
    go_wp2
    go_ret
    exact ⟨ret_bool (each_no fun hh => by have := hh.1; omega).symm, Below.refl _ _⟩
  go_enter Try.func86, Try.ntmps86
  go_wp2
  go_loopw [10] (fun i wr => ∃ k : Nat, k ≤ l.length ∧ i = .int .i64 k ∧ (∀ j (h : j < l.length), j < k → opRight l[j] = true) ∧ Below w.heap.size w wr) (fun i _ => l.length - (intOf i).toNat)
  case atStart => exact ⟨0, by omega, rfl, fun j h hj => by omega, Below.refl _ _⟩
  case round =>
    obtain ⟨k, hk, rfl, hal, hb⟩ := hrel
    have HL : Hid (∀ j (h : j < l.length), j < k → opRight l[j] = true) := ⟨hal⟩
    clear hal
    by_cases h : k < l.length
    · obtain ⟨b, off, rfl, hlt, ho⟩ := HA.out k h
      obtain ⟨c0, c1, c2, c3, c4, c5, c6⟩ := ho.block (w' := wr) (hb.block b hlt)
      have hsz := HS.out _ (List.getElem_mem h)
      have hcall := fun w => iOp_any l[k] w hsz.1 hsz.2
      unfold OpV.agg at hcall
      have hi0 : (0 : Int) ≤ (k : Int) := by omega
      have hi1 : (k : Int) < (l.length : Int) := by omega
      clear ho hsz
      go_wp2_with (first | (go_at_call 65; refine (hcall _).mono ?_; rintro e w1 ⟨rfl, hb1⟩; clear c0 c1 c2 c3 c4 c5 c6 hcall))
      · go_ret
        rename_i hr
        exact ⟨ret_bool (each_no fun hh => by simp [hh.2 k h] at hr).symm, (hb.alloc hb.size _).trans (hb1.mono (by have := hb.size; simp; omega))⟩
      · rename_i hr
        go_roundw
        case rel =>
          refine ⟨k + 1, by omega, by go_num, fun j hj hjk => ?_, (hb.alloc hb.size _).trans (hb1.mono (by have := hb.size; simp; omega))⟩
          rcases Nat.lt_or_ge j k with h' | h'
          · exact HL.out j hj h'
          · obtain rfl : j = k := by omega
            simpa using hr
        case measure => simp [intOf]; omega
    · go_wp2
      go_ret
      exact ⟨ret_bool (each_yes ⟨by omega, fun i hi => HL.out i hi (by omega)⟩).symm, hb⟩
end Go.Proofs.Ytcpgkalafkhlgae.OpR
namespace Go.Proofs.Ytcpgkalafkhlgae.OpR
open Go.ChangeShapes Go.WideShapes Go.ChangeAt Go.RowKit
set_option linter.unusedVariables false

structure PropV where
  key : ByteArray
  value : ByteArray
/-- A node: what it is, and where the slice of its props lies. -/
structure NodG where
  id : Int
  parent : Int
  name : ByteArray
  props : List PropV
  pao : Option Addr
  pcap : Nat
def PropV.agg (p : PropV) : Value := .agg #[.string p.key, .string p.value]
def PropV.cells (p : PropV) : List Value := [.string p.key, .string p.value]
def NodG.agg (n : NodG) : Value := .agg #[.int .i64 n.id, .int .i64 n.parent, .string n.name, .slice n.pao n.props.length n.pcap]
def NodG.cells (n : NodG) : List Value := [.int .i64 n.id, .int .i64 n.parent, .string n.name, .slice n.pao n.props.length n.pcap]
def PropAt (w : World) (b p : Nat) (x : PropV) : Prop := w.cell? ⟨b, p, none⟩ = some (.string x.key) ∧ w.cell? ⟨b, p + 1, none⟩ = some (.string x.value)
/-- The props of a slice. -/
def PropsAt (w : World) (ao : Option Addr) (l : List PropV) : Prop := ∀ j (hj : j < l.length), ∃ b off, ao = some ⟨b, off, none⟩ ∧ b < w.heap.size ∧ PropAt w b (off + j * 2) l[j]
def NodAt (w : World) (b p : Nat) (n : NodG) : Prop :=
  w.cell? ⟨b, p, none⟩ = some (.int .i64 n.id) ∧ w.cell? ⟨b, p + 1, none⟩ = some (.int .i64 n.parent) ∧ w.cell? ⟨b, p + 2, none⟩ = some (.string n.name) ∧ w.cell? ⟨b, p + 3, none⟩ = some (.slice n.pao n.props.length n.pcap)
/-- The nodes of a slice, with their props. -/
def NodesAt (w : World) (ao : Option Addr) (l : List NodG) : Prop := ∀ j (hj : j < l.length), ∃ b off, ao = some ⟨b, off, none⟩ ∧ b < w.heap.size ∧ NodAt w b (off + j * 4) l[j] ∧ PropsAt w l[j].pao l[j].props
theorem PropAt.block {w w' : World} {b p : Nat} {x : PropV} (h : PropAt w b p x) (e : w'.heap[b]? = w.heap[b]?) : PropAt w' b p x := by
  unfold PropAt at *
  simpa only [World.cell?, e] using h
theorem NodAt.block {w w' : World} {b p : Nat} {x : NodG} (h : NodAt w b p x) (e : w'.heap[b]? = w.heap[b]?) : NodAt w' b p x := by
  unfold NodAt at *
  simpa only [World.cell?, e] using h
theorem PropsAt.stays {w w' : World} {ao : Option Addr} {l : List PropV} (h : PropsAt w ao l) (hb : Below w.heap.size w w') : PropsAt w' ao l := fun j hj => by
  obtain ⟨b, off, e, hlt, ho⟩ := h j hj
  exact ⟨b, off, e, Nat.lt_of_lt_of_le hlt hb.size, ho.block (hb.block b hlt)⟩
theorem PropsAt.below {B : Nat} {w w' : World} {ao : Option Addr} {l : List PropV} (h : PropsAt w ao l) (hb : Below B w w') (hB : ∀ a, ao = some a → a.block < B) : PropsAt w' ao l := fun j hj => by
  obtain ⟨b, off, e, hlt, ho⟩ := h j hj
  exact ⟨b, off, e, Nat.lt_of_lt_of_le hlt hb.size, ho.block (hb.block b (hB _ e))⟩
theorem PropsAt.grown {w w' : World} {row : Option Nat} {ao : Option Addr} {l : List PropV} (h : PropsAt w ao l) (hg : w.grownBy w' row) (hr : ∀ a, ao = some a → some a.block ≠ row) : PropsAt w' ao l := fun j hj => by
  obtain ⟨b, off, e, hlt, ho⟩ := h j hj
  exact ⟨b, off, e, Nat.lt_of_lt_of_le hlt hg.size, ho.block (hg.block b hlt (hr _ e))⟩
theorem NodesAt.stays {w w' : World} {ao : Option Addr} {l : List NodG} (h : NodesAt w ao l) (hb : Below w.heap.size w w') : NodesAt w' ao l := fun j hj => by
  obtain ⟨b, off, e, hlt, ho, hp⟩ := h j hj
  exact ⟨b, off, e, Nat.lt_of_lt_of_le hlt hb.size, ho.block (hb.block b hlt), hp.stays hb⟩
theorem NodesAt.props {w : World} {ao : Option Addr} {l : List NodG} (h : NodesAt w ao l) : ∀ n ∈ l, PropsAt w n.pao n.props := fun n hn => by
  obtain ⟨j, hj, rfl⟩ := List.getElem_of_mem hn
  obtain ⟨_, _, _, _, _, hp⟩ := h j hj
  exact hp
/-- How long the texts of a node are. -/
def SizedN (m : Nat) (l : List NodG) : Prop := ∀ n ∈ l, n.name.size ≤ m ∧ n.props.length ≤ m ∧ ∀ p ∈ n.props, p.key.size ≤ m ∧ p.value.size ≤ m

/-! ### what is right -/
def keyLt (a b : ByteArray) : Bool := Op.bytesLess a.toList b.toList
/-- What is asked of the i-th prop: its key, its value, and that the one ahead of it is less. -/
def propOk (p : PropV) : Bool := NameR.nmB p.key && decide ((p.value.size : Int) ≤ 40)
def propRise (l : List PropV) (i : Nat) : Bool := if h : i + 1 < l.length then keyLt l[i].key l[i + 1].key else true
def propsOk (l : List PropV) : Bool := decide (l.length ≤ 20) && (l.all propOk && allTo l.length (propRise l))
def PropsOk (l : List PropV) : Prop := l.length ≤ 20 ∧ (∀ p ∈ l, propOk p = true) ∧ ∀ i (h : i + 1 < l.length), keyLt l[i].key l[i + 1].key = true
theorem propRise_iff (l : List PropV) : allTo l.length (propRise l) = true ↔ ∀ i (h : i + 1 < l.length), keyLt l[i].key l[i + 1].key = true := by
  rw [allTo_iff]
  constructor
  · intro h i hi
    have h1 := h i (by omega)
    unfold propRise at h1
    rwa [dif_pos hi] at h1
  · intro h i hi
    unfold propRise
    by_cases h1 : i + 1 < l.length
    · rw [dif_pos h1]; exact h i h1
    · rw [dif_neg h1]
theorem propsOk_iff (l : List PropV) : propsOk l = true ↔ PropsOk l := by
  unfold propsOk PropsOk
  rw [Bool.and_eq_true, Bool.and_eq_true, decide_eq_true_iff, List.all_eq_true, propRise_iff]
theorem propsOk_yes {l : List PropV} (h : PropsOk l) : propsOk l = true := (propsOk_iff l).2 h
theorem propsOk_no {l : List PropV} (h : ¬ PropsOk l) : propsOk l = false := bool_no (propsOk_iff l) h
/-- The first node of a number. -/
def nodOf (l : List NodG) (x : Int) : Option NodG := l.find? fun n => decide (n.id = x)
/-- The parent of a number's node. -/
def par (l : List NodG) (x : Int) : Option Int := (nodOf l x).map NodG.parent
/-- From a number on, parent by parent, within so many steps: is 0 or 1 come to? -/
def endsF (f : Int → Option Int) : Nat → Int → Bool
  | 0, _ => false
  | k + 1, x => if x = 0 ∨ x = 1 then true else match f x with
    | none => false
    | some y => endsF f k y
/-- .. is another number come to? -/
def abF (f : Int → Option Int) (y : Int) : Nat → Int → Bool
  | 0, _ => false
  | k + 1, x => if x = y then true else match f x with
    | none => false
    | some z => abF f y k z
def nodOk (l : List NodG) (n : NodG) : Bool := isIn n.id 2 1000000 && (NameR.nmB n.name && (propsOk n.props && endsF (par l) (l.length + 1) n.id))
def RisesN (l : List NodG) : Prop := ∀ i (h : i + 1 < l.length), l[i].id < l[i + 1].id
def nodRise (l : List NodG) (i : Nat) : Bool := if h : i + 1 < l.length then decide (l[i].id < l[i + 1].id) else true
def risesN (l : List NodG) : Bool := allTo l.length (nodRise l)
theorem risesN_iff (l : List NodG) : risesN l = true ↔ RisesN l := by
  unfold risesN RisesN
  rw [allTo_iff]
  constructor
  · intro h i hi
    have h1 := h i (by omega)
    unfold nodRise at h1
    rw [dif_pos hi] at h1
    simpa using h1
  · intro h i hi
    unfold nodRise
    by_cases h1 : i + 1 < l.length
    · rw [dif_pos h1]; simpa using h i h1
    · rw [dif_neg h1]
theorem risesN_yes {l : List NodG} (h : RisesN l) : risesN l = true := (risesN_iff l).2 h
theorem risesN_no {l : List NodG} (h : ¬ RisesN l) : risesN l = false := bool_no (risesN_iff l) h
def TreeR (l : List NodG) : Prop := l.length ≤ 150 ∧ RisesN l ∧ ∀ n ∈ l, nodOk l n = true
def treeRight (l : List NodG) : Bool := decide (l.length ≤ 150) && (risesN l && l.all (nodOk l))
theorem treeR_iff (l : List NodG) : treeRight l = true ↔ TreeR l := by
  unfold treeRight TreeR
  rw [Bool.and_eq_true, Bool.and_eq_true, decide_eq_true_iff, risesN_iff, List.all_eq_true]
theorem tree_yes {l : List NodG} (h : TreeR l) : treeRight l = true := (treeR_iff l).2 h
theorem tree_no {l : List NodG} (h : ¬ TreeR l) : treeRight l = false := bool_no (treeR_iff l) h

/-! ### by what impl asks -/
theorem rises_lt {l : List NodG} (h : RisesN l) : ∀ i j (hi : i < j) (hj : j < l.length), l[i].id < l[j].id := by
  intro i j hi
  induction hi with
  | refl => intro hj; exact h i hj
  | step hm ih => intro hj; exact Int.lt_trans (ih (by omega)) (h _ hj)
theorem nodOf_some {l : List NodG} {x : Int} {n : NodG} (h : nodOf l x = some n) : n ∈ l ∧ n.id = x := by
  unfold nodOf at h
  exact ⟨List.mem_of_find?_eq_some h, by simpa using List.find?_some h⟩
theorem nodOf_none {l : List NodG} {x : Int} (h : nodOf l x = none) : ∀ n ∈ l, n.id ≠ x := by
  unfold nodOf at h
  simpa using h
theorem nodOf_mem {l : List NodG} (hr : RisesN l) {n : NodG} (h : n ∈ l) : nodOf l n.id = some n := by
  cases e : nodOf l n.id with
  | none => exact absurd rfl (nodOf_none e n h)
  | some m =>
    obtain ⟨hm, hid⟩ := nodOf_some e
    obtain ⟨i, hi, rfl⟩ := List.getElem_of_mem h
    obtain ⟨j, hj, rfl⟩ := List.getElem_of_mem hm
    rcases Nat.lt_trichotomy i j with h' | h' | h'
    · have := rises_lt hr i j h' hj; omega
    · subst h'; rfl
    · have := rises_lt hr j i h' hi; omega
/-- Where no node has the numbers 0 and 1, the way up ends well just if it comes to one of them. -/
theorem ends_ab {f : Int → Option Int} (h0 : f 0 = none) (h1 : f 1 = none) : ∀ k x, endsF f k x = (abF f 0 k x || abF f 1 k x)
  | 0, _ => rfl
  | k + 1, x => by
    unfold endsF abF
    by_cases e0 : x = 0
    · simp [e0]
    · by_cases e1 : x = 1
      · subst e1; simp [h1]
      · rw [if_neg (by omega), if_neg e0, if_neg e1]
        cases f x with
        | none => rfl
        | some n => exact ends_ab h0 h1 k n
theorem no_low {l : List NodG} (h : ∀ n ∈ l, isIn n.id 2 1000000 = true) {x : Int} (hx : x < 2) : nodOf l x = none := by
  cases e : nodOf l x with
  | none => rfl
  | some n =>
    obtain ⟨hm, hid⟩ := nodOf_some e
    have := h n hm
    simp [isIn] at this
    omega
/-- What impl asks of each node. -/
def nodOkI (l : List NodG) (n : NodG) : Bool := isIn n.id 2 1000000 && (NameR.nmB n.name && (propsOk n.props && (abF (par l) 0 (l.length + 1) n.id || abF (par l) 1 (l.length + 1) n.id)))
theorem all_okI (l : List NodG) : l.all (nodOkI l) = l.all (nodOk l) := by
  by_cases h : ∀ n ∈ l, isIn n.id 2 1000000 = true
  · have e := ends_ab (f := par l) (by unfold par; rw [no_low h (x := 0) (by omega)]; rfl) (by unfold par; rw [no_low h (x := 1) (by omega)]; rfl)
    congr 1
    funext n
    unfold nodOkI nodOk
    rw [e]
  · have hno : ∀ f : NodG → Bool, (∀ n, f n = true → isIn n.id 2 1000000 = true) → l.all f = false := fun f hf => by
      refine Bool.eq_false_iff.2 fun ha => h fun n hn => hf n (List.all_eq_true.1 ha n hn)
    rw [hno, hno]
    · intro n hn; unfold nodOk at hn; rw [Bool.and_eq_true] at hn; exact hn.1
    · intro n hn; unfold nodOkI at hn; rw [Bool.and_eq_true] at hn; exact hn.1
end Go.Proofs.Ytcpgkalafkhlgae.OpR
