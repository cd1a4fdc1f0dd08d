/- Proves what impl's (*hand).act answers where it refuses. Proves what impl's (*hand).act answers where it refuses a deed that has its stamp. Proves what impl.Move and impl.Set answer, out of what the hand does. -/
import Derived.Test.YtfkgmkcndchkjaaGreatDoorMgD
import Derived.Test.YtfkgmkcndchkjaaGreatDoorMgE
import Derived.Test.YtfkgmkcndchkjaaGreatDoorCliX
import Derived.Test.YtfkgmkcndchkjaaGreatDoorCliY
namespace Go.Proofs.YtfkgmkcndchkjaaGreatDoor.OpR
open Go.ChangeShapes Go.WideShapes Go.ChangeAt Go.RowKit
set_option linter.unusedVariables false

/-- A deed in a variable, and the one that is told. -/
structure AcS (w W : World) (t r kd x p : Int) (nm vl : ByteArray) : Prop where
  op : W.heap[w.heap.size]? = some (.cells #[.int .i64 t, .int .i64 r, .int .i64 kd, .int .i64 x, .int .i64 p, .string nm, .string vl] 30 (0, 0))
  res : W.heap[w.heap.size + 1]? = some (.cells #[.int .i64 0, .int .i64 0, .int .i64 0, .int .i64 0, .int .i64 0, .string ⟨#[]⟩, .string ⟨#[]⟩] 30 (0, 0))
  below : Below w.heap.size w W
section
variable {w W W' : World} {t r kd x p : Int} {nm vl : ByteArray}
theorem AcS.lt (h : AcS w W t r kd x p nm vl) : w.heap.size + 1 < W.heap.size := (Array.getElem?_eq_some_iff.1 h.res).1
theorem AcS.new (w : World) (t r kd x p : Int) (nm vl : ByteArray) : AcS w ((w.alloc (.cells #[.int .i64 t, .int .i64 r, .int .i64 kd, .int .i64 x, .int .i64 p, .string nm, .string vl] 30)).alloc (.cells #[.int .i64 0, .int .i64 0, .int .i64 0, .int .i64 0, .int .i64 0, .string ⟨#[]⟩, .string ⟨#[]⟩] 30)) t r kd x p nm vl := by
  have h := heap_alloc_new (w.alloc (.cells #[.int .i64 t, .int .i64 r, .int .i64 kd, .int .i64 x, .int .i64 p, .string nm, .string vl] 30)) (.cells #[.int .i64 0, .int .i64 0, .int .i64 0, .int .i64 0, .int .i64 0, .string ⟨#[]⟩, .string ⟨#[]⟩] 30)
  rw [show (w.alloc (.cells #[.int .i64 t, .int .i64 r, .int .i64 kd, .int .i64 x, .int .i64 p, .string nm, .string vl] 30)).heap.size = w.heap.size + 1 by simp] at h
  exact ⟨(((Below.refl _ _).alloc (Nat.le_refl _) _).block _ (by simp)).trans (heap_alloc_new w _), h, ((Below.refl _ _).alloc (Nat.le_refl _) _).alloc (by simp) _⟩
theorem AcS.step (h : AcS w W t r kd x p nm vl) (hb : Below W.heap.size W W') : AcS w W' t r kd x p nm vl := by
  have hl := h.lt
  exact ⟨(hb.block _ (by omega)).trans h.op, (hb.block _ hl).trans h.res, h.below.trans (hb.mono h.below.size)⟩
theorem cells7f {g : Nat} {T : TypeId} {v0 v1 v2 v3 v4 v5 v6 : Value} (h : W.heap[g]? = some (.cells #[v0, v1, v2, v3, v4, v5, v6] T (0, 0))) : W.cell? ⟨g, 0, none⟩ = some v0 ∧ W.cell? ⟨g, 1, none⟩ = some v1 ∧ W.cell? ⟨g, 2, none⟩ = some v2 ∧ W.cell? ⟨g, 3, none⟩ = some v3 ∧ W.cell? ⟨g, 4, none⟩ = some v4 ∧ W.cell? ⟨g, 5, none⟩ = some v5 ∧ W.cell? ⟨g, 6, none⟩ = some v6 ∧ ∀ i, W.frozen? ⟨g, i, none⟩ = false := by
  refine ⟨?_, ?_, ?_, ?_, ?_, ?_, ?_, fun i => by simp [World.frozen?, h]⟩ <;> simp [World.cell?, h]
theorem below7 {B : Nat} {a : World} (h : Below B a W) {g : Nat} (hg : B ≤ g) (v0 v1 v2 v3 v4 v5 v6 : Value) : Below B a (((((((W.setCell ⟨g, 0, none⟩ v0).setCell ⟨g, 1, none⟩ v1).setCell ⟨g, 2, none⟩ v2).setCell ⟨g, 3, none⟩ v3).setCell ⟨g, 4, none⟩ v4).setCell ⟨g, 5, none⟩ v5).setCell ⟨g, 6, none⟩ v6) := ((((((h.setCell hg _).setCell hg _).setCell hg _).setCell hg _).setCell hg _).setCell hg _).setCell hg _
theorem AcS.set01 (h : AcS w W t r kd x p nm vl) (t' r' : Int) : AcS w ((W.setCell ⟨w.heap.size, 0, none⟩ (.int .i64 t')).setCell ⟨w.heap.size, 1, none⟩ (.int .i64 r')) t' r' kd x p nm vl :=
  ⟨set_block (set_block h.op 0 (.int .i64 t')) 1 (.int .i64 r'), (Below.heap_setCell _ _ _ _ (by show w.heap.size + 1 ≠ w.heap.size; omega)).trans ((Below.heap_setCell _ _ _ _ (by show w.heap.size + 1 ≠ w.heap.size; omega)).trans h.res), (h.below.setCell (p := ⟨w.heap.size, 0, none⟩) (Nat.le_refl _) _).setCell (p := ⟨w.heap.size, 1, none⟩) (Nat.le_refl _) _⟩
end
set_option maxRecDepth 100000 in
set_option maxHeartbeats 1000000 in
theorem hact_size1 (c : CliV) (la oa : Option Addr) (lc oc : Nat) (kd x p : Int) (nm vl : ByteArray) (g : Nat) (w : World) {f : Nat → Addr} (hS : Sents w f) (hz : CSz maxLen c) (hH : HandAt w g c la lc oa oc) (hA : OpsAt w la c.log) (hC : OpsAt w oa c.out) (hnm : nm.size ≤ maxLen) (hvl : vl.size ≤ maxLen) (h1 : 8000 < nm.size) : Calls Tryz.prog 47 #[.pointer (some ⟨g, 0, none⟩), .agg #[.int .i64 0, .int .i64 0, .int .i64 kd, .int .i64 x, .int .i64 p, .string nm, .string vl]] w fun e w' => e = .returned (.tuple #[.agg #[.int .i64 0, .int .i64 0, .int .i64 0, .int .i64 0, .int .i64 0, .string ⟨#[]⟩, .string ⟨#[]⟩], errV f (gOf 2)]) ∧ Below w.heap.size w w' := by
  have hv := fun W (hW : Below w.heap.size w W) => (hS.step hW).var 0 (by omega)
  have HV := hide hv
  rw [show gOf 2 = 0 from rfl]
  have HB0 := hide (AcS.new w 0 0 kd x p nm vl)
  have HH := hide hH
  have hgl := hH.lt
  have hlow := hS.low 6 (by omega)
  obtain ⟨p0, p1, p2, p3, p4, p5, fz⟩ := (hH.step HB0.out.below).cells
  obtain ⟨q0, q1, q2, q3, q4, q5, q6, _⟩ := cells7f HB0.out.op
  obtain ⟨z0, z1, z2, z3, z4, z5, z6, zf⟩ := cells7f HB0.out.res
  have d1 : decide (8000 < nm.size) = true := by simpa using h1
  have d1' : decide ((8000 : Int) < (nm.size : Int)) = true := by simpa using (show (8000 : Int) < (nm.size : Int) by omega)
  have k1 := HV.out _ HB0.out.below
  unfold errV at *
  clear hv hS hA hC hz hH
  go_enter Tryz.func47, Tryz.ntmps47
  go_wp2
  clear p0 p1 p2 p3 p4 p5 fz q0 q1 q2 q3 q4 q5 q6
  try clear d0
  try clear d0'
  try clear d1
  try clear d1'
  try clear e0
  try clear e0'
  try clear HR
  try clear HO
  try clear HAd
  try clear HH
  try clear HWi
  try clear hgl
  try clear hnm
  try clear hvl
  try clear h0
  try clear h00
  try clear h1
  try clear dt
  try clear hwk
  try clear hwk2
  try clear f1
  try clear f2
  try clear HT9
  go_region
  all_goals (
    go_wp2
    refine bodyPost_ret (v := .tuple #[.agg #[.int .i64 0, .int .i64 0, .int .i64 0, .int .i64 0, .int .i64 0, .string ⟨#[]⟩, .string ⟨#[]⟩], .iface 235 (.pointer (some (f 0)))]) (by simp [results, Tryz.results47, go_sem, z0, z1, z2, z3, z4, z5, z6]) rfl ⟨rfl, ?_⟩
    first | with_reducible exact (below7 HB0.out.below (by omega) _ _ _ _ _ _ _).drew | with_reducible exact HB0.out.below.drew | (trace_state; fail))
set_option maxRecDepth 100000 in
set_option maxHeartbeats 1000000 in
theorem hact_size2 (c : CliV) (la oa : Option Addr) (lc oc : Nat) (kd x p : Int) (nm vl : ByteArray) (g : Nat) (w : World) {f : Nat → Addr} (hS : Sents w f) (hz : CSz maxLen c) (hH : HandAt w g c la lc oa oc) (hA : OpsAt w la c.log) (hC : OpsAt w oa c.out) (hnm : nm.size ≤ maxLen) (hvl : vl.size ≤ maxLen) (h0 : ¬ 8000 < nm.size) (h1 : 8000 < vl.size) : Calls Tryz.prog 47 #[.pointer (some ⟨g, 0, none⟩), .agg #[.int .i64 0, .int .i64 0, .int .i64 kd, .int .i64 x, .int .i64 p, .string nm, .string vl]] w fun e w' => e = .returned (.tuple #[.agg #[.int .i64 0, .int .i64 0, .int .i64 0, .int .i64 0, .int .i64 0, .string ⟨#[]⟩, .string ⟨#[]⟩], errV f (gOf 2)]) ∧ Below w.heap.size w w' := by
  have hv := fun W (hW : Below w.heap.size w W) => (hS.step hW).var 0 (by omega)
  have HV := hide hv
  rw [show gOf 2 = 0 from rfl]
  have HB0 := hide (AcS.new w 0 0 kd x p nm vl)
  have HH := hide hH
  have hgl := hH.lt
  have hlow := hS.low 6 (by omega)
  obtain ⟨p0, p1, p2, p3, p4, p5, fz⟩ := (hH.step HB0.out.below).cells
  obtain ⟨q0, q1, q2, q3, q4, q5, q6, _⟩ := cells7f HB0.out.op
  obtain ⟨z0, z1, z2, z3, z4, z5, z6, zf⟩ := cells7f HB0.out.res
  have d0 : decide (8000 < nm.size) = false := by simpa using h0
  have d0' : decide ((8000 : Int) < (nm.size : Int)) = false := by simpa using (show ¬ (8000 : Int) < (nm.size : Int) by omega)
  have d1 : decide (8000 < vl.size) = true := by simpa using h1
  have d1' : decide ((8000 : Int) < (vl.size : Int)) = true := by simpa using (show (8000 : Int) < (vl.size : Int) by omega)
  have k1 := HV.out _ HB0.out.below
  unfold errV at *
  clear hv hS hA hC hz hH
  go_enter Tryz.func47, Tryz.ntmps47
  go_wp2
  clear p0 p1 p2 p3 p4 p5 fz q0 q1 q2 q3 q4 q5 q6
  try clear d0
  try clear d0'
  try clear d1
  try clear d1'
  try clear e0
  try clear e0'
  try clear HR
  try clear HO
  try clear HAd
  try clear HH
  try clear HWi
  try clear hgl
  try clear hnm
  try clear hvl
  try clear h0
  try clear h00
  try clear h1
  try clear dt
  try clear hwk
  try clear hwk2
  try clear f1
  try clear f2
  try clear HT9
  go_region
  all_goals (
    go_wp2
    refine bodyPost_ret (v := .tuple #[.agg #[.int .i64 0, .int .i64 0, .int .i64 0, .int .i64 0, .int .i64 0, .string ⟨#[]⟩, .string ⟨#[]⟩], .iface 235 (.pointer (some (f 0)))]) (by simp [results, Tryz.results47, go_sem, z0, z1, z2, z3, z4, z5, z6]) rfl ⟨rfl, ?_⟩
    first | with_reducible exact (below7 HB0.out.below (by omega) _ _ _ _ _ _ _).drew | with_reducible exact HB0.out.below.drew | (trace_state; fail))
set_option maxRecDepth 100000 in
set_option maxHeartbeats 1000000 in
theorem hact_ill (c : CliV) (la oa : Option Addr) (lc oc : Nat) (kd x p : Int) (nm vl : ByteArray) (g : Nat) (w : World) {f : Nat → Addr} (hS : Sents w f) (hz : CSz maxLen c) (hH : HandAt w g c la lc oa oc) (hA : OpsAt w la c.log) (hC : OpsAt w oa c.out) (hnm : nm.size ≤ maxLen) (hvl : vl.size ≤ maxLen) (h0 : ¬ 8000 < nm.size) (h00 : ¬ 8000 < vl.size) (hcr : cliRight c = false) : Calls Tryz.prog 47 #[.pointer (some ⟨g, 0, none⟩), .agg #[.int .i64 0, .int .i64 0, .int .i64 kd, .int .i64 x, .int .i64 p, .string nm, .string vl]] w fun e w' => e = .returned (.tuple #[.agg #[.int .i64 0, .int .i64 0, .int .i64 0, .int .i64 0, .int .i64 0, .string ⟨#[]⟩, .string ⟨#[]⟩], errV f (gOf 1)]) ∧ Below w.heap.size w w' := by
  have hv := fun W (hW : Below w.heap.size w W) => (hS.step hW).var 1 (by omega)
  have HV := hide hv
  rw [show gOf 1 = 1 from rfl]
  have HB0 := hide (AcS.new w 0 0 kd x p nm vl)
  have HH := hide hH
  have hgl := hH.lt
  have hlow := hS.low 6 (by omega)
  obtain ⟨p0, p1, p2, p3, p4, p5, fz⟩ := (hH.step HB0.out.below).cells
  obtain ⟨q0, q1, q2, q3, q4, q5, q6, _⟩ := cells7f HB0.out.op
  obtain ⟨z0, z1, z2, z3, z4, z5, z6, zf⟩ := cells7f HB0.out.res
  have d0 : decide (8000 < nm.size) = false := by simpa using h0
  have d0' : decide ((8000 : Int) < (nm.size : Int)) = false := by simpa using (show ¬ (8000 : Int) < (nm.size : Int) by omega)
  have e0 : decide (8000 < vl.size) = false := by simpa using h00
  have e0' : decide ((8000 : Int) < (vl.size : Int)) = false := by simpa using (show ¬ (8000 : Int) < (vl.size : Int) by omega)
  have hr := fun W (hW : Below w.heap.size w W) => iRight_any c la oa lc oc W hz (hA.stays hW) (hC.stays hW)
  rw [hcr] at hr
  have HR := hide hr
  unfold errV CliV.hand at *
  clear hv hS hA hC hz hH hr hcr
  go_enter Tryz.func47, Tryz.ntmps47
  go_wp2_with (first | (go_at_call 75; (refine (HR.out _ HB0.out.below).mono ?_); rintro e w1 ⟨rfl, hb1⟩; have HB1 := hide (HB0.out.step hb1); clear p0 p1 p2 p3 p4 p5 fz q0 q1 q2 q3 q4 q5 q6 z0 z1 z2 z3 z4 z5 z6 zf hb1; obtain ⟨p0, p1, p2, p3, p4, p5, fz⟩ := (HH.out.step HB1.out.below).cells; obtain ⟨q0, q1, q2, q3, q4, q5, q6, _⟩ := cells7f HB1.out.op; obtain ⟨z0, z1, z2, z3, z4, z5, z6, zf⟩ := cells7f HB1.out.res; have k1 := HV.out _ HB1.out.below) | fail)
  clear p0 p1 p2 p3 p4 p5 fz q0 q1 q2 q3 q4 q5 q6
  try clear d0
  try clear d0'
  try clear d1
  try clear d1'
  try clear e0
  try clear e0'
  try clear HR
  try clear HO
  try clear HAd
  try clear HH
  try clear HWi
  try clear hgl
  try clear hnm
  try clear hvl
  try clear h0
  try clear h00
  try clear h1
  try clear dt
  try clear hwk
  try clear hwk2
  try clear f1
  try clear f2
  try clear HT9
  go_region
  all_goals (
    go_wp2
    refine bodyPost_ret (v := .tuple #[.agg #[.int .i64 0, .int .i64 0, .int .i64 0, .int .i64 0, .int .i64 0, .string ⟨#[]⟩, .string ⟨#[]⟩], .iface 235 (.pointer (some (f 1)))]) (by simp [results, Tryz.results47, go_sem, z0, z1, z2, z3, z4, z5, z6]) rfl ⟨rfl, ?_⟩
    first | with_reducible exact (below7 HB1.out.below (by omega) _ _ _ _ _ _ _).drew | with_reducible exact HB1.out.below.drew | (trace_state; fail))
set_option maxRecDepth 100000 in
set_option maxHeartbeats 1000000 in
theorem hact_time (c : CliV) (la oa : Option Addr) (lc oc : Nat) (kd x p : Int) (nm vl : ByteArray) (g : Nat) (w : World) {f : Nat → Addr} (hS : Sents w f) (hz : CSz maxLen c) (hH : HandAt w g c la lc oa oc) (hA : OpsAt w la c.log) (hC : OpsAt w oa c.out) (hnm : nm.size ≤ maxLen) (hvl : vl.size ≤ maxLen) (h0 : ¬ 8000 < nm.size) (h00 : ¬ 8000 < vl.size) (hcr : cliRight c = true) (ht : c.clock = 1000000) : Calls Tryz.prog 47 #[.pointer (some ⟨g, 0, none⟩), .agg #[.int .i64 0, .int .i64 0, .int .i64 kd, .int .i64 x, .int .i64 p, .string nm, .string vl]] w fun e w' => e = .returned (.tuple #[.agg #[.int .i64 0, .int .i64 0, .int .i64 0, .int .i64 0, .int .i64 0, .string ⟨#[]⟩, .string ⟨#[]⟩], errV f (gOf 9)]) ∧ Below w.heap.size w w' := by
  have hv := fun W (hW : Below w.heap.size w W) => (hS.step hW).var 2 (by omega)
  have HV := hide hv
  rw [show gOf 9 = 2 from rfl]
  have HB0 := hide (AcS.new w 0 0 kd x p nm vl)
  have HH := hide hH
  have hgl := hH.lt
  have hlow := hS.low 6 (by omega)
  obtain ⟨p0, p1, p2, p3, p4, p5, fz⟩ := (hH.step HB0.out.below).cells
  obtain ⟨q0, q1, q2, q3, q4, q5, q6, _⟩ := cells7f HB0.out.op
  obtain ⟨z0, z1, z2, z3, z4, z5, z6, zf⟩ := cells7f HB0.out.res
  have d0 : decide (8000 < nm.size) = false := by simpa using h0
  have d0' : decide ((8000 : Int) < (nm.size : Int)) = false := by simpa using (show ¬ (8000 : Int) < (nm.size : Int) by omega)
  have e0 : decide (8000 < vl.size) = false := by simpa using h00
  have e0' : decide ((8000 : Int) < (vl.size : Int)) = false := by simpa using (show ¬ (8000 : Int) < (vl.size : Int) by omega)
  have hr := fun W (hW : Below w.heap.size w W) => iRight_any c la oa lc oc W hz (hA.stays hW) (hC.stays hW)
  rw [hcr] at hr
  have HR := hide hr
  have dt : (c.clock == 1000000) = true := by simpa using ht
  unfold errV CliV.hand at *
  clear hv hS hA hC hz hH hr hcr ht
  go_enter Tryz.func47, Tryz.ntmps47
  go_wp2_with (first | (go_at_call 75; (refine (HR.out _ HB0.out.below).mono ?_); rintro e w1 ⟨rfl, hb1⟩; have HB1 := hide (HB0.out.step hb1); clear p0 p1 p2 p3 p4 p5 fz q0 q1 q2 q3 q4 q5 q6 z0 z1 z2 z3 z4 z5 z6 zf hb1; obtain ⟨p0, p1, p2, p3, p4, p5, fz⟩ := (HH.out.step HB1.out.below).cells; obtain ⟨q0, q1, q2, q3, q4, q5, q6, _⟩ := cells7f HB1.out.op; obtain ⟨z0, z1, z2, z3, z4, z5, z6, zf⟩ := cells7f HB1.out.res; have k1 := HV.out _ HB1.out.below) | fail)
  clear p0 p1 p2 p3 p4 p5 fz q0 q1 q2 q3 q4 q5 q6
  try clear d0
  try clear d0'
  try clear d1
  try clear d1'
  try clear e0
  try clear e0'
  try clear HR
  try clear HO
  try clear HAd
  try clear HH
  try clear HWi
  try clear hgl
  try clear hnm
  try clear hvl
  try clear h0
  try clear h00
  try clear h1
  try clear dt
  try clear hwk
  try clear hwk2
  try clear f1
  try clear f2
  try clear HT9
  go_region
  all_goals (
    go_wp2
    refine bodyPost_ret (v := .tuple #[.agg #[.int .i64 0, .int .i64 0, .int .i64 0, .int .i64 0, .int .i64 0, .string ⟨#[]⟩, .string ⟨#[]⟩], .iface 235 (.pointer (some (f 2)))]) (by simp [results, Tryz.results47, go_sem, z0, z1, z2, z3, z4, z5, z6]) rfl ⟨rfl, ?_⟩
    first | with_reducible exact (below7 HB1.out.below (by omega) _ _ _ _ _ _ _).drew | with_reducible exact HB1.out.below.drew | (trace_state; fail))
end Go.Proofs.YtfkgmkcndchkjaaGreatDoor.OpR
namespace Go.Proofs.YtfkgmkcndchkjaaGreatDoor.OpR
open Go.ChangeShapes Go.WideShapes Go.ChangeAt Go.RowKit
set_option linter.unusedVariables false

theorem drewB9 {c c' : World} (h : Below c.drew.heap.size c.drew c') : Below c.heap.size c c' := ((Below.refl _ c).drew).trans (h.mono (Nat.le_refl _))
theorem HandAt.away {W : World} {g b i : Nat} {v : Value} {x : CliV} {la : Option Addr} {lc : Nat} {oa : Option Addr} {oc : Nat} (h : HandAt W g x la lc oa oc) (hne : g ≠ b) : HandAt (W.setCell ⟨b, i, none⟩ v) g x la lc oa oc := (Below.heap_setCell _ _ _ _ hne).trans h
theorem hand2 {W : World} {g : Nat} {x : CliV} {la : Option Addr} {lc : Nat} {oa : Option Addr} {oc : Nat} (h : HandAt W g x la lc oa oc) : W.cell? ⟨g, 2, none⟩ = some (.int .i64 x.clock) ∧ W.cell? ⟨g, 1, none⟩ = some (.int .i64 x.repl) := ⟨h.cells.2.2.1, h.cells.2.1⟩
/-- What the walk reads to ask the log. -/
def AskS (W : World) (n g : Nat) (t r kd x p : Int) (nm vl : ByteArray) (u : Value) : Prop := W.cell? ⟨g, 0, none⟩ = some u ∧ W.cell? ⟨n, 0, none⟩ = some (.int .i64 t) ∧ W.cell? ⟨n, 1, none⟩ = some (.int .i64 r) ∧ W.cell? ⟨n, 2, none⟩ = some (.int .i64 kd) ∧ W.cell? ⟨n, 3, none⟩ = some (.int .i64 x) ∧ W.cell? ⟨n, 4, none⟩ = some (.int .i64 p) ∧ W.cell? ⟨n, 5, none⟩ = some (.string nm) ∧ W.cell? ⟨n, 6, none⟩ = some (.string vl)
theorem askS {w W : World} {t r kd x p : Int} {nm vl : ByteArray} {g : Nat} {c : CliV} {la : Option Addr} {lc : Nat} {oa : Option Addr} {oc : Nat} (h : AcS w W t r kd x p nm vl) (hh : HandAt W g c la lc oa oc) : AskS W w.heap.size g t r kd x p nm vl (.slice la c.log.length lc) := by
  obtain ⟨a0, a1, a2, a3, a4, a5, a6, _⟩ := cells7f h.op
  exact ⟨hh.cells.1, a0, a1, a2, a3, a4, a5, a6⟩
set_option maxRecDepth 100000 in
set_option maxHeartbeats 1000000 in
theorem hact_wrong (c : CliV) (la oa : Option Addr) (lc oc : Nat) (kd x p : Int) (nm vl : ByteArray) (g : Nat) (w : World) {f : Nat → Addr} (hS : Sents w f) (hz : CSz maxLen c) (hH : HandAt w g c la lc oa oc) (hA : OpsAt w la c.log) (hC : OpsAt w oa c.out) (hnm : nm.size ≤ maxLen) (hvl : vl.size ≤ maxLen) (h0 : ¬ 8000 < nm.size) (h00 : ¬ 8000 < vl.size) (hcr : cliRight c = true) (ht : ¬ c.clock = 1000000) (hop : opRight ⟨c.clock + 1, c.repl, kd, x, p, nm, vl⟩ = false) : Calls Tryz.prog 47 #[.pointer (some ⟨g, 0, none⟩), .agg #[.int .i64 0, .int .i64 0, .int .i64 kd, .int .i64 x, .int .i64 p, .string nm, .string vl]] w fun e w' => e = .returned (.tuple #[.agg #[.int .i64 0, .int .i64 0, .int .i64 0, .int .i64 0, .int .i64 0, .string ⟨#[]⟩, .string ⟨#[]⟩], errV f (gOf 1)]) ∧ Below w.heap.size w w' := by
  have hv := fun W (hW : Below w.heap.size w W) => (hS.step hW).var 1 (by omega)
  have HV := hide hv
  rw [show gOf 1 = 1 from rfl]
  have HB0 := hide (AcS.new w 0 0 kd x p nm vl)
  have HH := hide hH
  have hgl := hH.lt
  have hlow := hS.low 6 (by omega)
  obtain ⟨p0, p1, p2, p3, p4, p5, fz⟩ := (hH.step HB0.out.below).cells
  obtain ⟨q0, q1, q2, q3, q4, q5, q6, _⟩ := cells7f HB0.out.op
  obtain ⟨z0, z1, z2, z3, z4, z5, z6, zf⟩ := cells7f HB0.out.res
  have d0 : decide (8000 < nm.size) = false := by simpa using h0
  have d0' : decide ((8000 : Int) < (nm.size : Int)) = false := by simpa using (show ¬ (8000 : Int) < (nm.size : Int) by omega)
  have e0 : decide (8000 < vl.size) = false := by simpa using h00
  have e0' : decide ((8000 : Int) < (vl.size : Int)) = false := by simpa using (show ¬ (8000 : Int) < (vl.size : Int) by omega)
  have hr := fun W (hW : Below w.heap.size w W) => iRight_any c la oa lc oc W hz (hA.stays hW) (hC.stays hW)
  rw [hcr] at hr
  have HR := hide hr
  obtain ⟨T9, hT9⟩ : ∃ T9, T9 = c.clock + 1 := ⟨_, rfl⟩
  have hR := (cliR_iff c).1 hcr
  have hk0 := hR.clock
  have hlog := log_yes hR.log
  have hl150 := hR.log.2.1
  have ho30 := hR.few
  have hwk : wrap64 (c.clock + 1) = T9 := by unfold wrap64; omega
  have hwk2 : IntKind.i64.wrap (c.clock + 1) = T9 := by rw [IntKind.wrap_i64]; omega
  have dt : (c.clock == 1000000) = false := by simpa using ht
  have hio := fun W => iOp_any ⟨T9, c.repl, kd, x, p, nm, vl⟩ W hnm hvl
  dsimp only [OpV.agg] at hio
  rw [← hT9] at hop
  rw [hop] at hio
  have HO := hide hio
  unfold errV CliV.hand at *
  clear hv hS hA hC hz hH hR hk0 hlog hl150 ho30 hio hop hT9 ht hcr hr
  go_enter Tryz.func47, Tryz.ntmps47
  go_wp2_with (first | (go_at_call 75; (refine (HR.out _ HB0.out.below).mono ?_); rintro e w1 ⟨rfl, hb1⟩; have HB1 := hide (HB0.out.step hb1); clear p0 p1 p2 p3 p4 p5 fz q0 q1 q2 q3 q4 q5 q6 z0 z1 z2 z3 z4 z5 z6 zf hb1; obtain ⟨p0, p1, p2, p3, p4, p5, fz⟩ := (HH.out.step HB1.out.below).cells; obtain ⟨q0, q1, q2, q3, q4, q5, q6, _⟩ := cells7f HB1.out.op; obtain ⟨z0, z1, z2, z3, z4, z5, z6, zf⟩ := cells7f HB1.out.res; have s20 := hand2 (HH.out.step HB1.out.below.drew); have s21 := hand2 ((HandAt.away (i := 0) (v := .int .i64 T9) (HH.out.step HB1.out.below) (show g ≠ w.heap.size by omega)).step (Below.refl _ _).drew); have s22 := hand2 ((HandAt.away (i := 1) (v := .int .i64 c.repl) (HandAt.away (i := 0) (v := .int .i64 T9) (HH.out.step HB1.out.below) (show g ≠ w.heap.size by omega)) (show g ≠ w.heap.size by omega)).step (Below.refl _ _).drew)) | fail)
  go_region_held3 (fun W => W.cell? ⟨g, 2, none⟩ = some (.int .i64 c.clock) ∧ W.cell? ⟨g, 1, none⟩ = some (.int .i64 c.repl)) (first | with_reducible exact s20 | with_reducible exact s21 | with_reducible exact s22) (fail)
  obtain ⟨X, hX⟩ : ∃ X, ((w1.setCell ⟨w.heap.size, 0, none⟩ (.int .i64 T9)).setCell ⟨w.heap.size, 1, none⟩ (.int .i64 c.repl)).drew = X := ⟨_, rfl⟩
  have hBX : AcS w X T9 c.repl kd x p nm vl := by rw [← hX]; exact (HB1.out.set01 T9 c.repl).step (Below.refl _ _).drew
  rw [hX]
  have HB2 := hide hBX
  clear hX hBX s20 s21 s22
  try clear p0 p1 p2 p3 p4 p5 fz q0 q1 q2 q3 q4 q5 q6
  try clear z0 z1 z2 z3 z4 z5 z6 zf
  obtain ⟨p0, p1, p2, p3, p4, p5, fz⟩ := (HH.out.step HB2.out.below).cells
  obtain ⟨q0, q1, q2, q3, q4, q5, q6, _⟩ := cells7f HB2.out.op
  obtain ⟨z0, z1, z2, z3, z4, z5, z6, zf⟩ := cells7f HB2.out.res
  go_wp2_with (first | (go_at_call 76; (refine (HO.out _).mono ?_); rintro e w3 ⟨rfl, hb3⟩; have HB3 := hide (HB2.out.step hb3); clear p0 p1 p2 p3 p4 p5 fz q0 q1 q2 q3 q4 q5 q6 z0 z1 z2 z3 z4 z5 z6 zf hb3; obtain ⟨p0, p1, p2, p3, p4, p5, fz⟩ := (HH.out.step HB3.out.below).cells; obtain ⟨q0, q1, q2, q3, q4, q5, q6, _⟩ := cells7f HB3.out.op; obtain ⟨z0, z1, z2, z3, z4, z5, z6, zf⟩ := cells7f HB3.out.res; have k1 := HV.out _ HB3.out.below) | fail)
  clear p0 p1 p2 p3 p4 p5 fz q0 q1 q2 q3 q4 q5 q6
  try clear d0
  try clear d0'
  try clear d1
  try clear d1'
  try clear e0
  try clear e0'
  try clear HR
  try clear HO
  try clear HAd
  try clear HH
  try clear HWi
  try clear hgl
  try clear hnm
  try clear hvl
  try clear h0
  try clear h00
  try clear h1
  try clear dt
  try clear hwk
  try clear hwk2
  try clear f1
  try clear f2
  try clear HT9
  go_region
  all_goals (
    go_wp2
    refine bodyPost_ret (v := .tuple #[.agg #[.int .i64 0, .int .i64 0, .int .i64 0, .int .i64 0, .int .i64 0, .string ⟨#[]⟩, .string ⟨#[]⟩], .iface 235 (.pointer (some (f 1)))]) (by simp [results, Tryz.results47, go_sem, z0, z1, z2, z3, z4, z5, z6]) rfl ⟨rfl, ?_⟩
    first | with_reducible exact (below7 HB3.out.below (by omega) _ _ _ _ _ _ _).drew | with_reducible exact HB3.out.below.drew | (trace_state; fail))
set_option maxRecDepth 100000 in
set_option maxHeartbeats 1000000 in
theorem hact_place (c : CliV) (la oa : Option Addr) (lc oc : Nat) (kd x p : Int) (nm vl : ByteArray) (g : Nat) (w : World) {f : Nat → Addr} (hS : Sents w f) (hz : CSz maxLen c) (hH : HandAt w g c la lc oa oc) (hA : OpsAt w la c.log) (hC : OpsAt w oa c.out) (hnm : nm.size ≤ maxLen) (hvl : vl.size ≤ maxLen) (h0 : ¬ 8000 < nm.size) (h00 : ¬ 8000 < vl.size) (hcr : cliRight c = true) (ht : ¬ c.clock = 1000000) (hop : opRight ⟨c.clock + 1, c.repl, kd, x, p, nm, vl⟩ = true) (cd : Int) (hadm : ∀ W, Below w.heap.size w W → Calls Tryz.prog 77 #[.slice la c.log.length lc, .agg #[.int .i64 (c.clock + 1), .int .i64 c.repl, .int .i64 kd, .int .i64 x, .int .i64 p, .string nm, .string vl]] W fun e w' => e = .returned (errV f (gOf cd)) ∧ Below W.heap.size W w') : Calls Tryz.prog 47 #[.pointer (some ⟨g, 0, none⟩), .agg #[.int .i64 0, .int .i64 0, .int .i64 kd, .int .i64 x, .int .i64 p, .string nm, .string vl]] w fun e w' => e = .returned (.tuple #[.agg #[.int .i64 0, .int .i64 0, .int .i64 0, .int .i64 0, .int .i64 0, .string ⟨#[]⟩, .string ⟨#[]⟩], errV f (gOf cd)]) ∧ Below w.heap.size w w' := by
  have HB0 := hide (AcS.new w 0 0 kd x p nm vl)
  have HH := hide hH
  have hgl := hH.lt
  have hlow := hS.low 6 (by omega)
  obtain ⟨p0, p1, p2, p3, p4, p5, fz⟩ := (hH.step HB0.out.below).cells
  obtain ⟨q0, q1, q2, q3, q4, q5, q6, _⟩ := cells7f HB0.out.op
  obtain ⟨z0, z1, z2, z3, z4, z5, z6, zf⟩ := cells7f HB0.out.res
  have d0 : decide (8000 < nm.size) = false := by simpa using h0
  have d0' : decide ((8000 : Int) < (nm.size : Int)) = false := by simpa using (show ¬ (8000 : Int) < (nm.size : Int) by omega)
  have e0 : decide (8000 < vl.size) = false := by simpa using h00
  have e0' : decide ((8000 : Int) < (vl.size : Int)) = false := by simpa using (show ¬ (8000 : Int) < (vl.size : Int) by omega)
  have hr := fun W (hW : Below w.heap.size w W) => iRight_any c la oa lc oc W hz (hA.stays hW) (hC.stays hW)
  rw [hcr] at hr
  have HR := hide hr
  obtain ⟨T9, hT9⟩ : ∃ T9, T9 = c.clock + 1 := ⟨_, rfl⟩
  have hR := (cliR_iff c).1 hcr
  have hk0 := hR.clock
  have hlog := log_yes hR.log
  have hl150 := hR.log.2.1
  have ho30 := hR.few
  have hwk : wrap64 (c.clock + 1) = T9 := by unfold wrap64; omega
  have hwk2 : IntKind.i64.wrap (c.clock + 1) = T9 := by rw [IntKind.wrap_i64]; omega
  have dt : (c.clock == 1000000) = false := by simpa using ht
  have hio := fun W => iOp_any ⟨T9, c.repl, kd, x, p, nm, vl⟩ W hnm hvl
  dsimp only [OpV.agg] at hio
  rw [← hT9] at hop
  rw [hop] at hio
  have HO := hide hio
  rw [← hT9] at hadm
  have HAd := hide hadm
  unfold errV CliV.hand at *
  clear hS hA hC hz hH hadm hR hk0 hlog hl150 ho30 hio hop hT9 ht hcr hr
  go_enter Tryz.func47, Tryz.ntmps47
  go_wp2_with (first | (go_at_call 75; (refine (HR.out _ HB0.out.below).mono ?_); rintro e w1 ⟨rfl, hb1⟩; have HB1 := hide (HB0.out.step hb1); clear p0 p1 p2 p3 p4 p5 fz q0 q1 q2 q3 q4 q5 q6 z0 z1 z2 z3 z4 z5 z6 zf hb1; obtain ⟨p0, p1, p2, p3, p4, p5, fz⟩ := (HH.out.step HB1.out.below).cells; obtain ⟨q0, q1, q2, q3, q4, q5, q6, _⟩ := cells7f HB1.out.op; obtain ⟨z0, z1, z2, z3, z4, z5, z6, zf⟩ := cells7f HB1.out.res; have s20 := hand2 (HH.out.step HB1.out.below.drew); have s21 := hand2 ((HandAt.away (i := 0) (v := .int .i64 T9) (HH.out.step HB1.out.below) (show g ≠ w.heap.size by omega)).step (Below.refl _ _).drew); have s22 := hand2 ((HandAt.away (i := 1) (v := .int .i64 c.repl) (HandAt.away (i := 0) (v := .int .i64 T9) (HH.out.step HB1.out.below) (show g ≠ w.heap.size by omega)) (show g ≠ w.heap.size by omega)).step (Below.refl _ _).drew)) | fail)
  go_region_held3 (fun W => W.cell? ⟨g, 2, none⟩ = some (.int .i64 c.clock) ∧ W.cell? ⟨g, 1, none⟩ = some (.int .i64 c.repl)) (first | with_reducible exact s20 | with_reducible exact s21 | with_reducible exact s22) (fail)
  obtain ⟨X, hX⟩ : ∃ X, ((w1.setCell ⟨w.heap.size, 0, none⟩ (.int .i64 T9)).setCell ⟨w.heap.size, 1, none⟩ (.int .i64 c.repl)).drew = X := ⟨_, rfl⟩
  have hBX : AcS w X T9 c.repl kd x p nm vl := by rw [← hX]; exact (HB1.out.set01 T9 c.repl).step (Below.refl _ _).drew
  rw [hX]
  have HB2 := hide hBX
  clear hX hBX s20 s21 s22
  try clear p0 p1 p2 p3 p4 p5 fz q0 q1 q2 q3 q4 q5 q6
  try clear z0 z1 z2 z3 z4 z5 z6 zf
  obtain ⟨p0, p1, p2, p3, p4, p5, fz⟩ := (HH.out.step HB2.out.below).cells
  obtain ⟨q0, q1, q2, q3, q4, q5, q6, _⟩ := cells7f HB2.out.op
  obtain ⟨z0, z1, z2, z3, z4, z5, z6, zf⟩ := cells7f HB2.out.res
  go_wp2_with (first | (go_at_call 76; (refine (HO.out _).mono ?_); rintro e w3 ⟨rfl, hb3⟩; have HB3 := hide (HB2.out.step hb3); clear p0 p1 p2 p3 p4 p5 fz q0 q1 q2 q3 q4 q5 q6 z0 z1 z2 z3 z4 z5 z6 zf hb3; obtain ⟨p0, p1, p2, p3, p4, p5, fz⟩ := (HH.out.step HB3.out.below).cells; obtain ⟨q0, q1, q2, q3, q4, q5, q6, _⟩ := cells7f HB3.out.op; obtain ⟨z0, z1, z2, z3, z4, z5, z6, zf⟩ := cells7f HB3.out.res) | fail)
  have b3d := HB3.out.below.drew
  have s0 := askS (HB3.out.step (Below.refl _ _).drew) (HH.out.step HB3.out.below.drew)
  have s1 := s0
  unfold AskS at s0 s1
  go_region_held3 (fun W => W.cell? ⟨g, 0, none⟩ = some (.slice la c.log.length lc) ∧ W.cell? ⟨w.heap.size, 0, none⟩ = some (.int .i64 T9) ∧ W.cell? ⟨w.heap.size, 1, none⟩ = some (.int .i64 c.repl) ∧ W.cell? ⟨w.heap.size, 2, none⟩ = some (.int .i64 kd) ∧ W.cell? ⟨w.heap.size, 3, none⟩ = some (.int .i64 x) ∧ W.cell? ⟨w.heap.size, 4, none⟩ = some (.int .i64 p) ∧ W.cell? ⟨w.heap.size, 5, none⟩ = some (.string nm) ∧ W.cell? ⟨w.heap.size, 6, none⟩ = some (.string vl)) (first | with_reducible exact s0 | with_reducible exact s1) (first | (go_at_call 77; (first | with_reducible refine (HAd.out _ b3d).mono ?_ | refine (HAd.out _ HB3.out.below).mono ?_); rintro e w4 ⟨rfl, hb4⟩; have HB4 := hide (HB3.out.step (drewB9 hb4)); clear s1 hb4; have s1 := askS HB4.out (HH.out.step HB4.out.below); unfold AskS at s1; clear p0 p1 p2 p3 p4 p5 fz q0 q1 q2 q3 q4 q5 q6 z0 z1 z2 z3 z4 z5 z6 zf; obtain ⟨p0, p1, p2, p3, p4, p5, fz⟩ := (HH.out.step HB4.out.below).cells; obtain ⟨q0, q1, q2, q3, q4, q5, q6, _⟩ := cells7f HB4.out.op; obtain ⟨z0, z1, z2, z3, z4, z5, z6, zf⟩ := cells7f HB4.out.res) | fail)
  go_wp2
  refine bodyPost_ret (v := .tuple #[.agg #[.int .i64 0, .int .i64 0, .int .i64 0, .int .i64 0, .int .i64 0, .string ⟨#[]⟩, .string ⟨#[]⟩], .iface 235 (.pointer (some (f (gOf cd))))]) (by simp [results, Tryz.results47, go_sem, z0, z1, z2, z3, z4, z5, z6]) rfl ⟨rfl, ?_⟩
  first | with_reducible exact below7 HB4.out.below (by omega) _ _ _ _ _ _ _ | with_reducible exact below7 (drewN_b HB4.out.below _) (by omega) _ _ _ _ _ _ _ | (trace_state; fail)
set_option maxRecDepth 100000 in
set_option maxHeartbeats 1000000 in
theorem hact_full1 (c : CliV) (la oa : Option Addr) (lc oc : Nat) (kd x p : Int) (nm vl : ByteArray) (g : Nat) (w : World) {f : Nat → Addr} (hS : Sents w f) (hz : CSz maxLen c) (hH : HandAt w g c la lc oa oc) (hA : OpsAt w la c.log) (hC : OpsAt w oa c.out) (hnm : nm.size ≤ maxLen) (hvl : vl.size ≤ maxLen) (h0 : ¬ 8000 < nm.size) (h00 : ¬ 8000 < vl.size) (hcr : cliRight c = true) (ht : ¬ c.clock = 1000000) (hop : opRight ⟨c.clock + 1, c.repl, kd, x, p, nm, vl⟩ = true) (hadm : ∀ W, Below w.heap.size w W → Calls Tryz.prog 77 #[.slice la c.log.length lc, .agg #[.int .i64 (c.clock + 1), .int .i64 c.repl, .int .i64 kd, .int .i64 x, .int .i64 p, .string nm, .string vl]] W fun e w' => e = .returned .nilIface ∧ Below W.heap.size W w') (hfu : c.out.length = 30) : Calls Tryz.prog 47 #[.pointer (some ⟨g, 0, none⟩), .agg #[.int .i64 0, .int .i64 0, .int .i64 kd, .int .i64 x, .int .i64 p, .string nm, .string vl]] w fun e w' => e = .returned (.tuple #[.agg #[.int .i64 0, .int .i64 0, .int .i64 0, .int .i64 0, .int .i64 0, .string ⟨#[]⟩, .string ⟨#[]⟩], errV f (gOf 9)]) ∧ Below w.heap.size w w' := by
  have hv := fun W (hW : Below w.heap.size w W) => (hS.step hW).var 2 (by omega)
  have HV := hide hv
  rw [show gOf 9 = 2 from rfl]
  have HB0 := hide (AcS.new w 0 0 kd x p nm vl)
  have HH := hide hH
  have hgl := hH.lt
  have hlow := hS.low 6 (by omega)
  obtain ⟨p0, p1, p2, p3, p4, p5, fz⟩ := (hH.step HB0.out.below).cells
  obtain ⟨q0, q1, q2, q3, q4, q5, q6, _⟩ := cells7f HB0.out.op
  obtain ⟨z0, z1, z2, z3, z4, z5, z6, zf⟩ := cells7f HB0.out.res
  have d0 : decide (8000 < nm.size) = false := by simpa using h0
  have d0' : decide ((8000 : Int) < (nm.size : Int)) = false := by simpa using (show ¬ (8000 : Int) < (nm.size : Int) by omega)
  have e0 : decide (8000 < vl.size) = false := by simpa using h00
  have e0' : decide ((8000 : Int) < (vl.size : Int)) = false := by simpa using (show ¬ (8000 : Int) < (vl.size : Int) by omega)
  have hr := fun W (hW : Below w.heap.size w W) => iRight_any c la oa lc oc W hz (hA.stays hW) (hC.stays hW)
  rw [hcr] at hr
  have HR := hide hr
  obtain ⟨T9, hT9⟩ : ∃ T9, T9 = c.clock + 1 := ⟨_, rfl⟩
  have hR := (cliR_iff c).1 hcr
  have hk0 := hR.clock
  have hlog := log_yes hR.log
  have hl150 := hR.log.2.1
  have ho30 := hR.few
  have hwk : wrap64 (c.clock + 1) = T9 := by unfold wrap64; omega
  have hwk2 : IntKind.i64.wrap (c.clock + 1) = T9 := by rw [IntKind.wrap_i64]; omega
  have dt : (c.clock == 1000000) = false := by simpa using ht
  have hio := fun W => iOp_any ⟨T9, c.repl, kd, x, p, nm, vl⟩ W hnm hvl
  dsimp only [OpV.agg] at hio
  rw [← hT9] at hop
  rw [hop] at hio
  have HO := hide hio
  rw [← hT9] at hadm
  have HAd := hide hadm
  have f1 : (c.out.length == 30) = true := by simpa using hfu
  have f2 : ((c.out.length : Int) == 30) = true := by simpa using (show (c.out.length : Int) = 30 by omega)
  unfold errV CliV.hand at *
  clear hv hS hA hC hz hH hadm hfu hR hk0 hlog hl150 ho30 hio hop hT9 ht hcr hr
  go_enter Tryz.func47, Tryz.ntmps47
  go_wp2_with (first | (go_at_call 75; (refine (HR.out _ HB0.out.below).mono ?_); rintro e w1 ⟨rfl, hb1⟩; have HB1 := hide (HB0.out.step hb1); clear p0 p1 p2 p3 p4 p5 fz q0 q1 q2 q3 q4 q5 q6 z0 z1 z2 z3 z4 z5 z6 zf hb1; obtain ⟨p0, p1, p2, p3, p4, p5, fz⟩ := (HH.out.step HB1.out.below).cells; obtain ⟨q0, q1, q2, q3, q4, q5, q6, _⟩ := cells7f HB1.out.op; obtain ⟨z0, z1, z2, z3, z4, z5, z6, zf⟩ := cells7f HB1.out.res; have s20 := hand2 (HH.out.step HB1.out.below.drew); have s21 := hand2 ((HandAt.away (i := 0) (v := .int .i64 T9) (HH.out.step HB1.out.below) (show g ≠ w.heap.size by omega)).step (Below.refl _ _).drew); have s22 := hand2 ((HandAt.away (i := 1) (v := .int .i64 c.repl) (HandAt.away (i := 0) (v := .int .i64 T9) (HH.out.step HB1.out.below) (show g ≠ w.heap.size by omega)) (show g ≠ w.heap.size by omega)).step (Below.refl _ _).drew)) | fail)
  go_region_held3 (fun W => W.cell? ⟨g, 2, none⟩ = some (.int .i64 c.clock) ∧ W.cell? ⟨g, 1, none⟩ = some (.int .i64 c.repl)) (first | with_reducible exact s20 | with_reducible exact s21 | with_reducible exact s22) (fail)
  obtain ⟨X, hX⟩ : ∃ X, ((w1.setCell ⟨w.heap.size, 0, none⟩ (.int .i64 T9)).setCell ⟨w.heap.size, 1, none⟩ (.int .i64 c.repl)).drew = X := ⟨_, rfl⟩
  have hBX : AcS w X T9 c.repl kd x p nm vl := by rw [← hX]; exact (HB1.out.set01 T9 c.repl).step (Below.refl _ _).drew
  rw [hX]
  have HB2 := hide hBX
  clear hX hBX s20 s21 s22
  try clear p0 p1 p2 p3 p4 p5 fz q0 q1 q2 q3 q4 q5 q6
  try clear z0 z1 z2 z3 z4 z5 z6 zf
  obtain ⟨p0, p1, p2, p3, p4, p5, fz⟩ := (HH.out.step HB2.out.below).cells
  obtain ⟨q0, q1, q2, q3, q4, q5, q6, _⟩ := cells7f HB2.out.op
  obtain ⟨z0, z1, z2, z3, z4, z5, z6, zf⟩ := cells7f HB2.out.res
  go_wp2_with (first | (go_at_call 76; (refine (HO.out _).mono ?_); rintro e w3 ⟨rfl, hb3⟩; have HB3 := hide (HB2.out.step hb3); clear p0 p1 p2 p3 p4 p5 fz q0 q1 q2 q3 q4 q5 q6 z0 z1 z2 z3 z4 z5 z6 zf hb3; obtain ⟨p0, p1, p2, p3, p4, p5, fz⟩ := (HH.out.step HB3.out.below).cells; obtain ⟨q0, q1, q2, q3, q4, q5, q6, _⟩ := cells7f HB3.out.op; obtain ⟨z0, z1, z2, z3, z4, z5, z6, zf⟩ := cells7f HB3.out.res) | fail)
  have b3d := HB3.out.below.drew
  have s0 := askS (HB3.out.step (Below.refl _ _).drew) (HH.out.step HB3.out.below.drew)
  have s1 := s0
  unfold AskS at s0 s1
  go_region_held3 (fun W => W.cell? ⟨g, 0, none⟩ = some (.slice la c.log.length lc) ∧ W.cell? ⟨w.heap.size, 0, none⟩ = some (.int .i64 T9) ∧ W.cell? ⟨w.heap.size, 1, none⟩ = some (.int .i64 c.repl) ∧ W.cell? ⟨w.heap.size, 2, none⟩ = some (.int .i64 kd) ∧ W.cell? ⟨w.heap.size, 3, none⟩ = some (.int .i64 x) ∧ W.cell? ⟨w.heap.size, 4, none⟩ = some (.int .i64 p) ∧ W.cell? ⟨w.heap.size, 5, none⟩ = some (.string nm) ∧ W.cell? ⟨w.heap.size, 6, none⟩ = some (.string vl)) (first | with_reducible exact s0 | with_reducible exact s1) (first | (go_at_call 77; (first | with_reducible refine (HAd.out _ b3d).mono ?_ | refine (HAd.out _ HB3.out.below).mono ?_); rintro e w4 ⟨rfl, hb4⟩; have HB4 := hide (HB3.out.step (drewB9 hb4)); clear s1 hb4; have s1 := askS HB4.out (HH.out.step HB4.out.below); unfold AskS at s1; clear p0 p1 p2 p3 p4 p5 fz q0 q1 q2 q3 q4 q5 q6 z0 z1 z2 z3 z4 z5 z6 zf; obtain ⟨p0, p1, p2, p3, p4, p5, fz⟩ := (HH.out.step HB4.out.below).cells; obtain ⟨q0, q1, q2, q3, q4, q5, q6, _⟩ := cells7f HB4.out.op; obtain ⟨z0, z1, z2, z3, z4, z5, z6, zf⟩ := cells7f HB4.out.res; have k1 := HV.out _ HB4.out.below) | fail)
  go_wp2
  clear p0 p1 p2 p3 p4 p5 fz q0 q1 q2 q3 q4 q5 q6
  try clear d0
  try clear d0'
  try clear d1
  try clear d1'
  try clear e0
  try clear e0'
  try clear HR
  try clear HO
  try clear HAd
  try clear HH
  try clear HWi
  try clear hgl
  try clear hnm
  try clear hvl
  try clear h0
  try clear h00
  try clear h1
  try clear dt
  try clear hwk
  try clear hwk2
  try clear f1
  try clear f2
  try clear HT9
  go_region
  all_goals (
    go_wp2
    refine bodyPost_ret (v := .tuple #[.agg #[.int .i64 0, .int .i64 0, .int .i64 0, .int .i64 0, .int .i64 0, .string ⟨#[]⟩, .string ⟨#[]⟩], .iface 235 (.pointer (some (f 2)))]) (by simp [results, Tryz.results47, go_sem, z0, z1, z2, z3, z4, z5, z6]) rfl ⟨rfl, ?_⟩
    first | with_reducible exact (below7 HB4.out.below (by omega) _ _ _ _ _ _ _).drew | with_reducible exact HB4.out.below.drew | (trace_state; fail))
end Go.Proofs.YtfkgmkcndchkjaaGreatDoor.OpR
namespace Go.Proofs.YtfkgmkcndchkjaaGreatDoor.OpR
open Go.ChangeShapes Go.WideShapes Go.ChangeAt Go.RowKit
set_option linter.unusedVariables false

set_option maxRecDepth 100000 in
set_option maxHeartbeats 2000000 in
theorem iMove_gen (c c2 : CliV) (la oa : Option Addr) (lc oc : Nat) (x p : Int) (nm : ByteArray) (ov : OpV) (ev : Value) (y : OutV) (w : World)
    (hact : ∀ g W, Below w.heap.size w W → HandAt W g c la lc oa oc → Calls Tryz.prog 47 #[.pointer (some ⟨g, 0, none⟩), .agg #[.int .i64 0, .int .i64 0, .int .i64 1, .int .i64 x, .int .i64 p, .string nm, .string ⟨#[]⟩]] W fun e w' => ∃ la2 lc2 oa2 oc2, e = .returned (.tuple #[ov.agg, ev]) ∧ HandAt w' g c2 la2 lc2 oa2 oc2 ∧ W.grownBy w' (some g) ∧ OpsAt w' la2 c2.log ∧ OpsAt w' oa2 c2.out)
    (htold : ∀ la2 lc2 oa2 oc2 W, Below w.heap.size w W → OpsAt W la2 c2.log → OpsAt W oa2 c2.out → Calls Tryz.prog 48 #[c2.hand la2 lc2 oa2 oc2, ov.agg, .int .i64 0, ev] W fun e w' => ITold W w' e y) :
    Calls Tryz.prog 12 #[c.agg la lc oa oc, .int .i64 x, .int .i64 p, .string nm] w fun e w' => ITold w w' e y := by
  have hho := fun W => handOf_any c la oa lc oc W
  have hB0 := FB.start w c la lc oa oc
  have HB0 := hide hB0
  obtain ⟨p0, p1, p2, p3, p4, p5⟩ := hB0.cli.cells
  have HTO := hide htold
  have HHO := hide hho
  have HAC := hide hact
  unfold CliV.agg CliV.hand OpV.agg at *
  clear htold hho hact hB0
  go_enter Tryz.func12, Tryz.ntmps12
  go_wp2_with (first | (go_at_call 46; (refine (HHO.out _).mono ?_); rintro e w1 ⟨rfl, hb1⟩; have HB1 := hide (HB0.out.step hb1); clear p0 p1 p2 p3 p4 p5 hb1) | (go_at_call 47; (refine (HAC.out _ _ (HB1.out.cli.2.alloc HB1.out.cli.2.size _) (HandAt.new w1 c la lc oa oc)).mono ?_); rintro e w2 ⟨la2, lc2, oa2, oc2, rfl, hh2, hg2, hl2, ho2⟩; have hal := (Below.refl w2.heap.size w2).alloc (Nat.le_refl _) (.cells #[.int .i64 ov.time, .int .i64 ov.repl, .int .i64 ov.kind, .int .i64 ov.node, .int .i64 ov.parent, .string ov.name, .string ov.value] 30); have HO2 := hide (And.intro (hl2.stays hal) (ho2.stays hal)); have HB2 := hide (((HB1.out.step ((Below.refl _ _).alloc (Nat.le_refl _) _)).grown hg2 HB1.out.lt).step hal); obtain ⟨p0, p1, p2, p3, p4, p5, fr⟩ := (hh2.step hal).cells; clear hh2 hg2 hl2 ho2 hal) | (go_at_call 48; (refine (HTO.out _ _ _ _ _ HB2.out.cli.2 HO2.out.1 HO2.out.2).mono ?_); intro e w3 h3; obtain ⟨xl, xo, he, hL, hO, hM, hbl, hbo, hb3⟩ := h3; unfold OutV.agg at he; subst he; have HB3 := hide (HB2.out.step hb3); have HX := hide (And.intro hL (And.intro hO (And.intro hM (And.intro hbl hbo)))); have HL2 := hide HB2.out.lt; clear p0 p1 p2 p3 p4 p5 fr hL hO hM hbl hbo hb3; obtain ⟨r0, r1, r2, r3, r4, r5, r6, r7, r8, r9, r10, r11, r12, r13, r14, fr⟩ := fif HB3.out.res) | fail)
  obtain ⟨hL, hO, hM, hbl, hbo⟩ := HX.out
  have hl2 := HL2.out
  refine bodyPost_ret (v := .agg #[.int .i64 y.cl.repl, .int .i64 y.cl.clock, .slice xl y.cl.log.length y.cl.log.length, .int .i64 y.cl.acked, .slice xo y.cl.out.length y.cl.out.length, .int .i64 y.cl.got, .int .i64 y.op.time, .int .i64 y.op.repl, .int .i64 y.op.kind, .int .i64 y.op.node, .int .i64 y.op.parent, .string y.op.name, .string y.op.value, .int .i64 y.many, .int .i64 y.code]) (by simp [results, Tryz.results12, go_sem, r0, r1, r2, r3, r4, r5, r6, r7, r8, r9, r10, r11, r12, r13, r14]) rfl ⟨xl, xo, rfl, ?_, ?_, ?_, fun a ea => ?_, fun a ea => ?_, ?_⟩
  · exact OpsAt.set15 hL (fun a ea => by have := hbl a ea; omega) _ _ _ _ _ _ _ _ _ _ _ _ _ _ _
  · exact OpsAt.set15 hO (fun a ea => by have := hbo a ea; omega) _ _ _ _ _ _ _ _ _ _ _ _ _ _ _
  · exact MarkC.set15 hM (fun a ea => by have := hbl a ea; omega) (fun a ea => by have := hbo a ea; omega) _ _ _ _ _ _ _ _ _ _ _ _ _ _ _
  · have := hbl a ea; omega
  · have := hbo a ea; omega
  · exact below15 HB3.out.cli.2 (by omega) _ _ _ _ _ _ _ _ _ _ _ _ _ _ _
set_option maxRecDepth 100000 in
set_option maxHeartbeats 2000000 in
theorem iSet_gen (c c2 : CliV) (la oa : Option Addr) (lc oc : Nat) (x : Int) (nm vl : ByteArray) (ov : OpV) (ev : Value) (y : OutV) (w : World)
    (hact : ∀ g W, Below w.heap.size w W → HandAt W g c la lc oa oc → Calls Tryz.prog 47 #[.pointer (some ⟨g, 0, none⟩), .agg #[.int .i64 0, .int .i64 0, .int .i64 2, .int .i64 x, .int .i64 0, .string nm, .string vl]] W fun e w' => ∃ la2 lc2 oa2 oc2, e = .returned (.tuple #[ov.agg, ev]) ∧ HandAt w' g c2 la2 lc2 oa2 oc2 ∧ W.grownBy w' (some g) ∧ OpsAt w' la2 c2.log ∧ OpsAt w' oa2 c2.out)
    (htold : ∀ la2 lc2 oa2 oc2 W, Below w.heap.size w W → OpsAt W la2 c2.log → OpsAt W oa2 c2.out → Calls Tryz.prog 48 #[c2.hand la2 lc2 oa2 oc2, ov.agg, .int .i64 0, ev] W fun e w' => ITold W w' e y) :
    Calls Tryz.prog 19 #[c.agg la lc oa oc, .int .i64 x, .string nm, .string vl] w fun e w' => ITold w w' e y := by
  have hho := fun W => handOf_any c la oa lc oc W
  have hB0 := FB.start w c la lc oa oc
  have HB0 := hide hB0
  obtain ⟨p0, p1, p2, p3, p4, p5⟩ := hB0.cli.cells
  have HTO := hide htold
  have HHO := hide hho
  have HAC := hide hact
  unfold CliV.agg CliV.hand OpV.agg at *
  clear htold hho hact hB0
  go_enter Tryz.func19, Tryz.ntmps19
  go_wp2_with (first | (go_at_call 46; (refine (HHO.out _).mono ?_); rintro e w1 ⟨rfl, hb1⟩; have HB1 := hide (HB0.out.step hb1); clear p0 p1 p2 p3 p4 p5 hb1) | (go_at_call 47; (refine (HAC.out _ _ (HB1.out.cli.2.alloc HB1.out.cli.2.size _) (HandAt.new w1 c la lc oa oc)).mono ?_); rintro e w2 ⟨la2, lc2, oa2, oc2, rfl, hh2, hg2, hl2, ho2⟩; have hal := (Below.refl w2.heap.size w2).alloc (Nat.le_refl _) (.cells #[.int .i64 ov.time, .int .i64 ov.repl, .int .i64 ov.kind, .int .i64 ov.node, .int .i64 ov.parent, .string ov.name, .string ov.value] 30); have HO2 := hide (And.intro (hl2.stays hal) (ho2.stays hal)); have HB2 := hide (((HB1.out.step ((Below.refl _ _).alloc (Nat.le_refl _) _)).grown hg2 HB1.out.lt).step hal); obtain ⟨p0, p1, p2, p3, p4, p5, fr⟩ := (hh2.step hal).cells; clear hh2 hg2 hl2 ho2 hal) | (go_at_call 48; (refine (HTO.out _ _ _ _ _ HB2.out.cli.2 HO2.out.1 HO2.out.2).mono ?_); intro e w3 h3; obtain ⟨xl, xo, he, hL, hO, hM, hbl, hbo, hb3⟩ := h3; unfold OutV.agg at he; subst he; have HB3 := hide (HB2.out.step hb3); have HX := hide (And.intro hL (And.intro hO (And.intro hM (And.intro hbl hbo)))); have HL2 := hide HB2.out.lt; clear p0 p1 p2 p3 p4 p5 fr hL hO hM hbl hbo hb3; obtain ⟨r0, r1, r2, r3, r4, r5, r6, r7, r8, r9, r10, r11, r12, r13, r14, fr⟩ := fif HB3.out.res) | fail)
  obtain ⟨hL, hO, hM, hbl, hbo⟩ := HX.out
  have hl2 := HL2.out
  refine bodyPost_ret (v := .agg #[.int .i64 y.cl.repl, .int .i64 y.cl.clock, .slice xl y.cl.log.length y.cl.log.length, .int .i64 y.cl.acked, .slice xo y.cl.out.length y.cl.out.length, .int .i64 y.cl.got, .int .i64 y.op.time, .int .i64 y.op.repl, .int .i64 y.op.kind, .int .i64 y.op.node, .int .i64 y.op.parent, .string y.op.name, .string y.op.value, .int .i64 y.many, .int .i64 y.code]) (by simp [results, Tryz.results19, go_sem, r0, r1, r2, r3, r4, r5, r6, r7, r8, r9, r10, r11, r12, r13, r14]) rfl ⟨xl, xo, rfl, ?_, ?_, ?_, fun a ea => ?_, fun a ea => ?_, ?_⟩
  · exact OpsAt.set15 hL (fun a ea => by have := hbl a ea; omega) _ _ _ _ _ _ _ _ _ _ _ _ _ _ _
  · exact OpsAt.set15 hO (fun a ea => by have := hbo a ea; omega) _ _ _ _ _ _ _ _ _ _ _ _ _ _ _
  · exact MarkC.set15 hM (fun a ea => by have := hbl a ea; omega) (fun a ea => by have := hbo a ea; omega) _ _ _ _ _ _ _ _ _ _ _ _ _ _ _
  · have := hbl a ea; omega
  · have := hbo a ea; omega
  · exact below15 HB3.out.cli.2 (by omega) _ _ _ _ _ _ _ _ _ _ _ _ _ _ _
end Go.Proofs.YtfkgmkcndchkjaaGreatDoor.OpR
