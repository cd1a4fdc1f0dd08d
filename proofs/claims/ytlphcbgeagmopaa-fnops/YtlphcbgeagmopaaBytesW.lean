/- Proves what spec.OpsBytes tells: the bytes of a right list of ops. -/
import Derived.Test.YtlphcbgeagmopaaTextW
import Derived.Test.YtlphcbgeagmopaaOpY
namespace Go.Proofs.Ytlphcbgeagmopaa.OpR
open Go.ChangeShapes Go.WideShapes Go.ChangeAt Go.RowKit
open NumR (putNum putText)
set_option linter.unusedVariables false

/-- The bytes so far, and those of an op behind them. -/
def addOp (t : ByteArray) (o : OpV) : ByteArray := t ++ putNum o.time ++ putNum o.repl ++ putNum o.kind ++ putNum o.node ++ putNum o.parent ++ putText o.name ++ putText o.value
def bytesFrom (t : ByteArray) : List OpV → ByteArray
  | [] => t
  | o :: r => bytesFrom (addOp t o) r
def rawBytes (l : List OpV) : ByteArray := bytesFrom (putNum l.length) l
theorem right_rng {o : OpV} (h : opRight o = true) : 1 ≤ o.time ∧ o.time ≤ 1000000 ∧ 1 ≤ o.repl ∧ o.repl ≤ 50 ∧ 2 ≤ o.node ∧ o.node ≤ 1000000 ∧ (o.kind = 1 ∨ o.kind = 2) ∧ 0 ≤ o.parent ∧ o.parent ≤ 1000000 ∧ o.name.size ≤ 20 ∧ o.value.size ≤ 40 := by
  unfold opRight kindRight isIn at h
  simp only [Bool.and_eq_true, decide_eq_true_eq] at h
  obtain ⟨⟨⟨⟨⟨h1, h2⟩, h3, h4⟩, h5, h6⟩, h7⟩, h8⟩ := h
  have h9 := ((NameR.nmB_iff o.name).1 h7).2.1
  refine ⟨h1, h2, h3, h4, h5, h6, ?_⟩
  by_cases k1 : o.kind = 1
  · rw [if_pos k1] at h8
    simp only [Bool.and_eq_true, decide_eq_true_eq] at h8
    obtain ⟨⟨h10, h11⟩, h12⟩ := h8
    have hz : o.value.size = 0 := by
      have e : o.value.toList = [] := by simpa using h12
      have e2 : o.value.data.toList = [] := by rw [← e, ByteArray.toList_eq]
      have := congrArg List.length e2
      simpa using this
    exact ⟨.inl k1, h10, h11, h9, by omega⟩
  · rw [if_neg k1] at h8
    by_cases k2 : o.kind = 2
    · rw [if_pos k2] at h8
      simp only [Bool.and_eq_true, decide_eq_true_eq] at h8
      exact ⟨.inr k2, by omega, by omega, h9, by omega⟩
    · rw [if_neg k2] at h8
      cases h8

/-- A world behind calls, in which a variable that holds an op still lies at g. -/
structure VarOp (B : Nat) (w c : World) (g : Nat) (T : TypeId) (o : OpV) : Prop where
  below : Below B w c
  lies : c.heap[g]? = some (.cells #[.int .i64 o.time, .int .i64 o.repl, .int .i64 o.kind, .int .i64 o.node, .int .i64 o.parent, .string o.name, .string o.value] T (0, 0))
theorem VarOp.step {B : Nat} {w c c' : World} {g : Nat} {T : TypeId} {o : OpV} (h : VarOp B w c g T o) (hb : Below c.heap.size c c') (hB : B ≤ c.heap.size) : VarOp B w c' g T o :=
  ⟨h.below.trans (hb.mono hB), (hb.block _ (Array.getElem?_eq_some_iff.1 h.lies).1).trans h.lies⟩
theorem VarOp.cells {B : Nat} {w c : World} {g : Nat} {T : TypeId} {o : OpV} (h : VarOp B w c g T o) : c.cell? ⟨g, 0, none⟩ = some (.int .i64 o.time) ∧ c.cell? ⟨g, 1, none⟩ = some (.int .i64 o.repl) ∧ c.cell? ⟨g, 2, none⟩ = some (.int .i64 o.kind) ∧ c.cell? ⟨g, 3, none⟩ = some (.int .i64 o.node) ∧ c.cell? ⟨g, 4, none⟩ = some (.int .i64 o.parent) ∧ c.cell? ⟨g, 5, none⟩ = some (.string o.name) ∧ c.cell? ⟨g, 6, none⟩ = some (.string o.value) := by
  have e := h.lies
  refine ⟨?_, ?_, ?_, ?_, ?_, ?_, ?_⟩ <;> simp [World.cell?, e]
theorem putNum_small {n : Int} (h1 : 0 ≤ n) (h2 : n ≤ 1000000) : (putNum n).size ≤ 3 := by
  show (NumR.leb (NumR.foldI n).toNat).toArray.size ≤ 3
  simp only [List.size_toArray]
  refine NumR.leb_len ?_
  rw [NumR.foldI_pos (by omega)]; omega
theorem putText_small {t : ByteArray} (h : t.size ≤ 8000) : (putText t).size ≤ t.size + 3 := by
  rw [NumR.putText_yes (by omega), NumR.cat_two, ByteArray.size_append]
  have := putNum_small (n := (t.size : Int)) (by omega) (by omega)
  omega
theorem addOp_size (t : ByteArray) (o : OpV) : (addOp t o).size = t.size + (putNum o.time).size + (putNum o.repl).size + (putNum o.kind).size + (putNum o.node).size + (putNum o.parent).size + (putText o.name).size + (putText o.value).size := by
  unfold addOp
  simp only [ByteArray.size_append]
theorem sPutN (n : Int) (h1 : -9223372036854775808 ≤ n) (h2 : n ≤ 9223372036854775807) (w : World) :
    Calls Try.prog 107 #[.int .i64 n] w fun e w' => e = .returned (.string (putNum n)) ∧ Below w.heap.size w w' := NumR.sPut_any n h1 h2 w
theorem bytesFrom_snoc (t : ByteArray) (l : List OpV) (o : OpV) : bytesFrom t (l ++ [o]) = addOp (bytesFrom t l) o := by
  induction l generalizing t with
  | nil => rfl
  | cons x r ih => exact ih (addOp t x)

set_option maxRecDepth 100000 in
set_option maxHeartbeats 1000000 in
theorem sBytes_any (l : List OpV) (ao : Option Addr) (cap : Nat) (w : World) (hl : l.length ≤ 150) (hA : OpsAt w ao l) (hR : ∀ i (h : i < l.length), opRight l[i] = true) :
    Calls Try.prog 55 #[.slice ao l.length cap] w fun e w' => e = .returned (.string (rawBytes l)) ∧ Below w.heap.size w w' := by
  have HA : Hid (OpsAt w ao l) := ⟨hA⟩
  have HR : Hid (∀ i (h : i < l.length), opRight l[i] = true) := ⟨hR⟩
  clear hA hR
  have h0 : ∀ w, Calls Try.prog 107 #[.int .i64 (l.length : Int)] w fun e w' => e = .returned (.string (putNum (l.length : Int))) ∧ Below w.heap.size w w' := fun w => NumR.sPut_any _ (by omega) (by omega) w
  go_enter Try.func55, Try.ntmps55
  go_wp2_with (first | (go_at_call 107; refine (h0 _).mono ?_; rintro e w1 ⟨rfl, hb1⟩; clear h0))
  go_loopw [3, 4] (fun t i wr => ∃ k : Nat, k ≤ l.length ∧ i = .int .i64 k ∧ t = .string (bytesFrom (putNum (l.length : Int)) (l.take k)) ∧ (bytesFrom (putNum (l.length : Int)) (l.take k)).size ≤ 100 + 1000 * k ∧ Below w.heap.size w wr) (fun _ i _ => l.length - (intOf i).toNat)
  case atStart => exact ⟨0, by omega, rfl, rfl, by have := putNum_small (n := (l.length : Int)) (by omega) (by omega); show (putNum (l.length : Int)).size ≤ _; omega, hb1⟩
  case round =>
    obtain ⟨k, hk, rfl, rfl, hts, hb⟩ := hrel
    by_cases h : k < l.length
    · obtain ⟨b, off, rfl, hlt, ho⟩ := HA.out k h
      obtain ⟨c0, c1, c2, c3, c4, c5, c6⟩ := ho.block (w' := wr) (hb.block b hlt)
      obtain ⟨r0, r1, r2, r3, r4, r5, r6, r7, r8, r9, r10⟩ := right_rng (HR.out k h)
      have HT : Hid (bytesFrom (putNum (l.length : Int)) (l.take (k + 1)) = addOp (bytesFrom (putNum (l.length : Int)) (l.take k)) l[k]) := ⟨by
        rw [← bytesFrom_snoc]; congr 1; rw [List.take_add_one, List.getElem?_eq_getElem h]; rfl⟩
      generalize bytesFrom (putNum (l.length : Int)) (l.take k) = t at hts HT ⊢
      generalize ho' : l[k] = o at *
      have hi0 : (0 : Int) ≤ (k : Int) := by omega
      have hi1 : (k : Int) < (l.length : Int) := by omega
      have hQ : VarOp w.heap.size w (wr.alloc (.cells #[.int .i64 o.time, .int .i64 o.repl, .int .i64 o.kind, .int .i64 o.node, .int .i64 o.parent, .string o.name, .string o.value] 40)).drew wr.heap.size 40 o := ⟨(hb.alloc hb.size _).drew, heap_alloc_new wr _⟩
      obtain ⟨k0, k1, k2, k3, k4, k5, k6⟩ := hQ.cells
      have z0 := putNum_small (n := o.time) (by omega) (by omega)
      have z1 := putNum_small (n := o.repl) (by omega) (by omega)
      have z2 := putNum_small (n := o.kind) (by omega) (by omega)
      have z3 := putNum_small (n := o.node) (by omega) (by omega)
      have z4 := putNum_small (n := o.parent) (by omega) (by omega)
      have z5 := putText_small (t := o.name) (by omega)
      have z6 := putText_small (t := o.value) (by omega)
      have g1 : ¬ 9223372036854775807 < t.size + (putNum o.time).size := by omega
      have g2 : ¬ 9223372036854775807 < t.size + (putNum o.time).size + (putNum o.repl).size := by omega
      have g3 : ¬ 9223372036854775807 < t.size + (putNum o.time).size + (putNum o.repl).size + (putNum o.kind).size := by omega
      have g4 : ¬ 9223372036854775807 < t.size + (putNum o.time).size + (putNum o.repl).size + (putNum o.kind).size + (putNum o.node).size := by omega
      have g5 : ¬ 9223372036854775807 < t.size + (putNum o.time).size + (putNum o.repl).size + (putNum o.kind).size + (putNum o.node).size + (putNum o.parent).size := by omega
      have g6 : ¬ 9223372036854775807 < t.size + (putNum o.time).size + (putNum o.repl).size + (putNum o.kind).size + (putNum o.node).size + (putNum o.parent).size + (putText o.name).size := by omega
      have g7 : ¬ 9223372036854775807 < t.size + (putNum o.time).size + (putNum o.repl).size + (putNum o.kind).size + (putNum o.node).size + (putNum o.parent).size + (putText o.name).size + (putText o.value).size := by omega
      have hBs := hb.size
      have hN0 := sPutN o.time (by omega) (by omega)
      have hN1 := sPutN o.repl (by omega) (by omega)
      have hN2 := sPutN o.kind (by omega) (by omega)
      have hN3 := sPutN o.node (by omega) (by omega)
      have hN4 := sPutN o.parent (by omega) (by omega)
      have hN5 := fun w => NumR.sText_any o.name w (by unfold maxLen; omega)
      have hN6 := fun w => NumR.sText_any o.value w (by unfold maxLen; omega)
      clear ho
      go_wp2
      clear c0 c1 c2 c3 c4 c5 c6
      go_region_held3 (fun w' => w'.cell? ⟨wr.heap.size, 0, none⟩ = some (.int .i64 o.time) ∧ w'.cell? ⟨wr.heap.size, 1, none⟩ = some (.int .i64 o.repl) ∧ w'.cell? ⟨wr.heap.size, 2, none⟩ = some (.int .i64 o.kind) ∧ w'.cell? ⟨wr.heap.size, 3, none⟩ = some (.int .i64 o.node) ∧ w'.cell? ⟨wr.heap.size, 4, none⟩ = some (.int .i64 o.parent) ∧ w'.cell? ⟨wr.heap.size, 5, none⟩ = some (.string o.name) ∧ w'.cell? ⟨wr.heap.size, 6, none⟩ = some (.string o.value)) (exact ⟨k0, k1, k2, k3, k4, k5, k6⟩) (first | (go_at_call 107; refine (hN0 _).mono ?_; rintro e x1 ⟨rfl, hx1⟩; have hQ1 := hQ.step hx1 (by have := hQ.below.size; omega); obtain ⟨k0, k1, k2, k3, k4, k5, k6⟩ := hQ1.cells; clear hN0) | (go_at_call 107; refine (hN1 _).mono ?_; rintro e x2 ⟨rfl, hx2⟩; have hQ2 := hQ1.step hx2 (by have := hQ1.below.size; omega); obtain ⟨k0, k1, k2, k3, k4, k5, k6⟩ := hQ2.cells; clear hN1) | (go_at_call 107; refine (hN2 _).mono ?_; rintro e x3 ⟨rfl, hx3⟩; have hQ3 := hQ2.step hx3 (by have := hQ2.below.size; omega); obtain ⟨k0, k1, k2, k3, k4, k5, k6⟩ := hQ3.cells; clear hN2) | (go_at_call 107; refine (hN3 _).mono ?_; rintro e x4 ⟨rfl, hx4⟩; have hQ4 := hQ3.step hx4 (by have := hQ3.below.size; omega); obtain ⟨k0, k1, k2, k3, k4, k5, k6⟩ := hQ4.cells; clear hN3) | (go_at_call 107; refine (hN4 _).mono ?_; rintro e x5 ⟨rfl, hx5⟩; have hQ5 := hQ4.step hx5 (by have := hQ4.below.size; omega); obtain ⟨k0, k1, k2, k3, k4, k5, k6⟩ := hQ5.cells; clear hN4) | (go_at_call 108; refine (hN5 _).mono ?_; rintro e x6 ⟨rfl, hx6⟩; have hQ6 := hQ5.step hx6 (by have := hQ5.below.size; omega); obtain ⟨k0, k1, k2, k3, k4, k5, k6⟩ := hQ6.cells; clear hN5) | (go_at_call 108; refine (hN6 _).mono ?_; rintro e x7 ⟨rfl, hx7⟩; have hQ7 := hQ6.step hx7 (by have := hQ6.below.size; omega); obtain ⟨k0, k1, k2, k3, k4, k5, k6⟩ := hQ7.cells; clear hN6))
      go_wp2
      go_roundw
      case rel =>
        refine ⟨k + 1, by omega, by go_num, congrArg Value.string HT.out.symm, ?_, hQ7.below⟩
        rw [HT.out, addOp_size]
        omega
      case measure => simp [intOf]; omega
    · obtain rfl : k = l.length := by omega
      rw [List.take_length]
      go_wp2
      go_ret
      exact ⟨rfl, hb⟩

/-- What OpsBytes tells. -/
def opsBytes (l : List OpV) : ByteArray := if opsRight l = true then (if 8000 < (rawBytes l).size then ByteArray.empty else rawBytes l) else ByteArray.empty
theorem bytes_no {l : List OpV} (h : opsRight l = false) : opsBytes l = ByteArray.empty := if_neg (by rw [h]; decide)
theorem bytes_far {l : List OpV} (h : opsRight l = true) (h2 : 8000 < (rawBytes l).size) : opsBytes l = ByteArray.empty := (if_pos h).trans (if_pos h2)
theorem bytes_yes {l : List OpV} (h : opsRight l = true) (h2 : ¬ 8000 < (rawBytes l).size) : opsBytes l = rawBytes l := (if_pos h).trans (if_neg h2)
theorem ops_of {l : List OpV} (h : opsRight l = true) : OpsR l := by
  refine Classical.byContradiction fun hn => ?_
  rw [ops_no hn] at h
  cases h
theorem raw_size {l : List OpV} (h : OpsR l) : (rawBytes l).size ≤ 200000 := by
  have key : ∀ (r : List OpV) (t : ByteArray), (∀ o ∈ r, opRight o = true) → (bytesFrom t r).size ≤ t.size + 100 * r.length := by
    intro r
    induction r with
    | nil => intro t _; simp [bytesFrom]
    | cons o r ih =>
      intro t ho
      obtain ⟨r0, r1, r2, r3, r4, r5, r6, r7, r8, r9, r10⟩ := right_rng (ho o (by simp))
      have z0 := putNum_small (n := o.time) (by omega) (by omega)
      have z1 := putNum_small (n := o.repl) (by omega) (by omega)
      have z2 := putNum_small (n := o.kind) (by omega) (by omega)
      have z3 := putNum_small (n := o.node) (by omega) (by omega)
      have z4 := putNum_small (n := o.parent) (by omega) (by omega)
      have z5 := putText_small (t := o.name) (by omega)
      have z6 := putText_small (t := o.value) (by omega)
      have h1 := ih (addOp t o) (fun x hx => ho x (by simp [hx]))
      rw [addOp_size] at h1
      show (bytesFrom (addOp t o) r).size ≤ _
      simp only [List.length_cons]
      omega
  have h1 := key l (putNum l.length) (fun o ho => by obtain ⟨j, hj, rfl⟩ := List.getElem_of_mem ho; exact h.2.1 j hj)
  have h2 := putNum_small (n := (l.length : Int)) (by omega) (by have := h.1; omega)
  have h3 := h.1
  unfold rawBytes
  omega

set_option maxRecDepth 100000 in
set_option maxHeartbeats 400000 in
theorem sOpsBytes_any (l : List OpV) (ao : Option Addr) (cap : Nat) (w : World) (hl : l.length ≤ maxLen) (hA : OpsAt w ao l) (hS : Sized l) :
    Calls Try.prog 11 #[.slice ao l.length cap] w fun e w' => e = .returned (.string (opsBytes l)) ∧ Below w.heap.size w w' := by
  have h1 := sOps_any l ao cap w hl hA hS
  have HA : Hid (OpsAt w ao l) := ⟨hA⟩
  have HNo : Hid (400 < l.length → opsRight l = false) := ⟨fun h => ops_no fun hh => by have := hh.1; omega⟩
  unfold maxLen at hl
  clear hA hS
  cases hr : opsRight l
  · have HB : Hid (opsBytes l = ByteArray.empty) := ⟨bytes_no hr⟩
    rw [hr] at h1
    clear hr HNo
    go_enter Try.func11, Try.ntmps11
    go_wp2_with (first | (go_at_call 13; refine h1.mono ?_; rintro e w1 ⟨rfl, hb1⟩))
    all_goals (go_ret; first | exact ⟨by rw [HB.out]; rfl, hb1⟩ | exact ⟨by rw [HB.out]; rfl, Below.refl _ _⟩)
  · have hR := ops_of hr
    rw [hr] at h1
    have hz := raw_size hR
    have h150 := hR.1
    have HR : Hid (OpsR l) := ⟨hR⟩
    have HY : Hid (opsRight l = true) := ⟨hr⟩
    clear hr hR HNo
    go_enter Try.func11, Try.ntmps11
    go_wp2_with (first | (go_at_call 13; refine h1.mono ?_; rintro e w1 ⟨rfl, hb1⟩; have h2 := sBytes_any l ao cap w1 h150 (HA.out.stays hb1) HR.out.2.1) | (go_at_call 55; refine h2.mono ?_; rintro e w2 ⟨rfl, hb2⟩; have hB2 := hb1.trans (hb2.mono hb1.size)))
    · go_ret
      exact ⟨by rw [bytes_far HY.out (by omega)]; rfl, hB2⟩
    · go_ret
      exact ⟨by rw [bytes_yes HY.out (by omega)]; rfl, hB2⟩
end Go.Proofs.Ytlphcbgeagmopaa.OpR
