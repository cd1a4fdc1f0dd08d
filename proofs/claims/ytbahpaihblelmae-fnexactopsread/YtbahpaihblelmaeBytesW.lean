/- Proves what spec.OpsBytes tells: the bytes of a right list of ops. -/
import Derived.Test.YtbahpaihblelmaeTextW
import Derived.Test.YtbahpaihblelmaeOpY
namespace Go.Proofs.Ytbahpaihblelmae.OpR
open Go.ChangeShapes Go.WideShapes Go.ChangeAt Go.RowKit
open NumR (putNum putText)
set_option linter.unusedVariables false

/-- The bytes so far, and those of an op behind them. -/
def addOp (t : ByteArray) (o : OpV) : ByteArray := t ++ putNum o.time ++ putNum o.repl ++ putNum o.kind ++ putNum o.node ++ putNum o.parent ++ putText o.name ++ putText o.value
def bytesFrom (t : ByteArray) : List OpV → ByteArray
  | [] => t
  | o :: r => bytesFrom (addOp t o) r
def rawBytes (l : List OpV) : ByteArray := bytesFrom (putNum l.length) l
theorem right_rng {o : OpV} (h : opRight o = true) : 1 ≤ o.time ∧ o.time ≤ 1000000 ∧ 1 ≤ o.repl ∧ o.repl ≤ 50 ∧ 2 ≤ o.node ∧ o.node ≤ 1000000 ∧ (o.kind = 1 ∨ o.kind = 2) ∧ 0 ≤ o.parent ∧ o.parent ≤ 1000000 ∧ o.name.size ≤ 20 ∧ o.value.size ≤ 40 := by
  unfold opRight kindRight isIn at h
  simp only [Bool.and_eq_true, decide_eq_true_eq] at h
  obtain ⟨⟨⟨⟨⟨h1, h2⟩, h3, h4⟩, h5, h6⟩, h7⟩, h8⟩ := h
  have h9 := ((NameR.nmB_iff o.name).1 h7).2.1
  refine ⟨h1, h2, h3, h4, h5, h6, ?_⟩
  by_cases k1 : o.kind = 1
  · rw [if_pos k1] at h8
    simp only [Bool.and_eq_true, decide_eq_true_eq] at h8
    obtain ⟨⟨h10, h11⟩, h12⟩ := h8
    have hz : o.value.size = 0 := by
      have e : o.value.toList = [] := by simpa using h12
      have e2 : o.value.data.toList = [] := by rw [← e, ByteArray.toList_eq]
      have := congrArg List.length e2
      simpa using this
    exact ⟨.inl k1, h10, h11, h9, by omega⟩
  · rw [if_neg k1] at h8
    by_cases k2 : o.kind = 2
    · rw [if_pos k2] at h8
      simp only [Bool.and_eq_true, decide_eq_true_eq] at h8
      exact ⟨.inr k2, by omega, by omega, h9, by omega⟩
    · rw [if_neg k2] at h8
      cases h8

/-- A world behind calls, in which a variable that holds an op still lies at g. -/
structure VarOp (B : Nat) (w c : World) (g : Nat) (T : TypeId) (o : OpV) : Prop where
  below : Below B w c
  lies : c.heap[g]? = some (.cells #[.int .i64 o.time, .int .i64 o.repl, .int .i64 o.kind, .int .i64 o.node, .int .i64 o.parent, .string o.name, .string o.value] T (0, 0))
theorem VarOp.step {B : Nat} {w c c' : World} {g : Nat} {T : TypeId} {o : OpV} (h : VarOp B w c g T o) (hb : Below c.heap.size c c') (hB : B ≤ c.heap.size) : VarOp B w c' g T o :=
  ⟨h.below.trans (hb.mono hB), (hb.block _ (Array.getElem?_eq_some_iff.1 h.lies).1).trans h.lies⟩
theorem VarOp.cells {B : Nat} {w c : World} {g : Nat} {T : TypeId} {o : OpV} (h : VarOp B w c g T o) : c.cell? ⟨g, 0, none⟩ = some (.int .i64 o.time) ∧ c.cell? ⟨g, 1, none⟩ = some (.int .i64 o.repl) ∧ c.cell? ⟨g, 2, none⟩ = some (.int .i64 o.kind) ∧ c.cell? ⟨g, 3, none⟩ = some (.int .i64 o.node) ∧ c.cell? ⟨g, 4, none⟩ = some (.int .i64 o.parent) ∧ c.cell? ⟨g, 5, none⟩ = some (.string o.name) ∧ c.cell? ⟨g, 6, none⟩ = some (.string o.value) := by
  have e := h.lies
  refine ⟨?_, ?_, ?_, ?_, ?_, ?_, ?_⟩ <;> simp [World.cell?, e]
theorem putNum_small {n : Int} (h1 : 0 ≤ n) (h2 : n ≤ 1000000) : (putNum n).size ≤ 3 := by
  show (NumR.leb (NumR.foldI n).toNat).toArray.size ≤ 3
  simp only [List.size_toArray]
  refine NumR.leb_len ?_
  rw [NumR.foldI_pos (by omega)]; omega
theorem putText_small {t : ByteArray} (h : t.size ≤ 8000) : (putText t).size ≤ t.size + 3 := by
  rw [NumR.putText_yes (by omega), NumR.cat_two, ByteArray.size_append]
  have := putNum_small (n := (t.size : Int)) (by omega) (by omega)
  omega
theorem addOp_size (t : ByteArray) (o : OpV) : (addOp t o).size = t.size + (putNum o.time).size + (putNum o.repl).size + (putNum o.kind).size + (putNum o.node).size + (putNum o.parent).size + (putText o.name).size + (putText o.value).size := by
  unfold addOp
  simp only [ByteArray.size_append]
theorem bytesFrom_snoc (t : ByteArray) (l : List OpV) (o : OpV) : bytesFrom t (l ++ [o]) = addOp (bytesFrom t l) o := by
  induction l generalizing t with
  | nil => rfl
  | cons x r ih => exact ih (addOp t x)

/-- What OpsBytes tells. -/
def opsBytes (l : List OpV) : ByteArray := if opsRight l = true then (if 8000 < (rawBytes l).size then ByteArray.empty else rawBytes l) else ByteArray.empty
theorem bytes_no {l : List OpV} (h : opsRight l = false) : opsBytes l = ByteArray.empty := if_neg (by rw [h]; decide)
theorem bytes_far {l : List OpV} (h : opsRight l = true) (h2 : 8000 < (rawBytes l).size) : opsBytes l = ByteArray.empty := (if_pos h).trans (if_pos h2)
theorem bytes_yes {l : List OpV} (h : opsRight l = true) (h2 : ¬ 8000 < (rawBytes l).size) : opsBytes l = rawBytes l := (if_pos h).trans (if_neg h2)
theorem ops_of {l : List OpV} (h : opsRight l = true) : OpsR l := by
  refine Classical.byContradiction fun hn => ?_
  rw [ops_no hn] at h
  cases h
theorem raw_size {l : List OpV} (h : OpsR l) : (rawBytes l).size ≤ 200000 := by
  have key : ∀ (r : List OpV) (t : ByteArray), (∀ o ∈ r, opRight o = true) → (bytesFrom t r).size ≤ t.size + 100 * r.length := by
    intro r
    induction r with
    | nil => intro t _; simp [bytesFrom]
    | cons o r ih =>
      intro t ho
      obtain ⟨r0, r1, r2, r3, r4, r5, r6, r7, r8, r9, r10⟩ := right_rng (ho o (by simp))
      have z0 := putNum_small (n := o.time) (by omega) (by omega)
      have z1 := putNum_small (n := o.repl) (by omega) (by omega)
      have z2 := putNum_small (n := o.kind) (by omega) (by omega)
      have z3 := putNum_small (n := o.node) (by omega) (by omega)
      have z4 := putNum_small (n := o.parent) (by omega) (by omega)
      have z5 := putText_small (t := o.name) (by omega)
      have z6 := putText_small (t := o.value) (by omega)
      have h1 := ih (addOp t o) (fun x hx => ho x (by simp [hx]))
      rw [addOp_size] at h1
      show (bytesFrom (addOp t o) r).size ≤ _
      simp only [List.length_cons]
      omega
  have h1 := key l (putNum l.length) (fun o ho => by obtain ⟨j, hj, rfl⟩ := List.getElem_of_mem ho; exact h.2.1 j hj)
  have h2 := putNum_small (n := (l.length : Int)) (by omega) (by have := h.1; omega)
  have h3 := h.1
  unfold rawBytes
  omega

end Go.Proofs.Ytbahpaihblelmae.OpR
