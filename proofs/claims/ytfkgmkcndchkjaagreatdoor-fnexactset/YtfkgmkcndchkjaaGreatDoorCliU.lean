/- Proves what impl's hand hands out: the client, and what is told. -/
import Derived.Test.YtfkgmkcndchkjaaGreatDoorCliH
import Derived.Test.YtfkgmkcndchkjaaGreatDoorCliT
import Derived.Test.YtfkgmkcndchkjaaGreatDoorCliK
import Derived.Test.YtfkgmkcndchkjaaGreatDoorOwnW
import Derived.Test.YtfkgmkcndchkjaaGreatDoorIsE
import Derived.Test.YtfkgmkcndchkjaaGreatDoorCliF
import Derived.Deep.Cut
import Derived.Deep.CutRange
namespace Go.Proofs.YtfkgmkcndchkjaaGreatDoor.OpR
open Go.ChangeShapes Go.WideShapes Go.ChangeAt Go.RowKit
set_option linter.unusedVariables false

theorem drewB' {c c' : World} (h : Below c.drew.heap.size c.drew c') : Below c.heap.size c c' := ((Below.refl _ c).drew).trans (h.mono (Nat.le_refl _))
theorem HandBox.set {w c : World} {g b i : Nat} {x : CliV} {la : Option Addr} {lc : Nat} {oa : Option Addr} {oc : Nat} {v : Value} (h : HandBox w c g x la lc oa oc) (hne : g ≠ b) (hb : w.heap.size ≤ b) : HandBox w (c.setCell ⟨b, i, none⟩ v) g x la lc oa oc :=
  ⟨(Below.heap_setCell _ _ _ _ hne).trans h.1, h.2.setCell (p := ⟨b, i, none⟩) hb v⟩
/-- What impl tells. -/
def ITold (w w' : World) (e : Ending) (x : OutV) : Prop := ∃ la oa, e = .returned (x.agg la x.cl.log.length oa x.cl.out.length) ∧ OpsAt w' la x.cl.log ∧ OpsAt w' oa x.cl.out ∧ MarkC w' x.cl la oa ∧ (∀ a, la = some a → w.heap.size ≤ a.block) ∧ (∀ a, oa = some a → w.heap.size ≤ a.block) ∧ Below w.heap.size w w'
theorem OpsIn.rowC {w : World} {g : Nat} {T : TypeId} {l : List OpV} (h : OpsIn w g T l) : RowB w g T (l.length * 7) := ⟨opsArr l, h, opsArr_size l⟩
theorem ITold.ill {w w' : World} {code : Int} (hb : Below w.heap.size w w') : ITold w w' (.returned ((OutV.ill code).agg none 0 none 0)) (OutV.ill code) :=
  ⟨none, none, rfl, fun j hj => absurd hj (by simp [OutV.ill, CliV.zero]), fun j hj => absurd hj (by simp [OutV.ill, CliV.zero]), ⟨.inr ⟨rfl, rfl⟩, .inr ⟨rfl, rfl⟩, fun x y e => by cases e⟩, fun a e => (by cases e), fun a e => (by cases e), hb⟩
set_option maxRecDepth 100000 in
set_option maxHeartbeats 1000000 in
theorem client_any (c : CliV) (la oa : Option Addr) (lc oc : Nat) (w : World) (hz : CSz 1048576 c) (hA : OpsAt w la c.log) (hC : OpsAt w oa c.out) :
    Calls Tryz.prog 58 #[c.hand la lc oa oc] w fun e w' => ∃ g1 g2, e = .returned (c.agg (some ⟨g1, 0, none⟩) c.log.length (some ⟨g2, 0, none⟩) c.out.length) ∧ OpsIn w' g1 30 c.log ∧ OpsIn w' g2 30 c.out ∧ g1 ≠ g2 ∧ w.heap.size ≤ g1 ∧ w.heap.size ≤ g2 ∧ Below w.heap.size w w' := by
  have h1 := fun W (hW : Below w.heap.size w W) => own_any c.log la lc W hz.log (hA.stays hW) hz.lsz
  have h2 := fun W (hW : Below w.heap.size w W) => own_any c.out oa oc W hz.out (hC.stays hW) hz.osz
  have H1 := hide h1
  have H2 := hide h2
  have HB0 := hide (HandBox.new w c la lc oa oc)
  have hx0 := HB0.out.cells
  unfold CliV.hand CliV.agg
  clear h1 h2 hA hC hz
  have M1 : Hid True := ⟨trivial⟩
  have hT0 : Six ((w.alloc (.cells #[.slice la c.log.length lc, .int .i64 c.repl, .int .i64 c.clock, .int .i64 c.acked, .slice oa c.out.length oc, .int .i64 c.got] 77)).alloc (.cells #[.int .i64 0, .int .i64 0, .slice none 0 0, .int .i64 0, .slice none 0 0, .int .i64 0] 28)) (w.heap.size + 1) 28 (.int .i64 0) (.int .i64 0) (.slice none 0 0) (.int .i64 0) (.slice none 0 0) (.int .i64 0) := by
    have h := six_new (w.alloc (.cells #[.slice la c.log.length lc, .int .i64 c.repl, .int .i64 c.clock, .int .i64 c.acked, .slice oa c.out.length oc, .int .i64 c.got] 77)) 28 (.int .i64 0) (.int .i64 0) (.slice none 0 0) (.int .i64 0) (.slice none 0 0) (.int .i64 0)
    rw [show (w.alloc (.cells #[.slice la c.log.length lc, .int .i64 c.repl, .int .i64 c.clock, .int .i64 c.acked, .slice oa c.out.length oc, .int .i64 c.got] 77)).heap.size = w.heap.size + 1 by simp] at h
    exact h
  have HT0 := hide hT0
  clear hT0
  have HBn := hide ((HB0.out.step ((Below.refl _ _).alloc (Nat.le_refl _) (.cells #[.int .i64 0, .int .i64 0, .slice none 0 0, .int .i64 0, .slice none 0 0, .int .i64 0] 28))).drew)
  have hx1 := HBn.out.cells
  clear hx0
  go_enter Tryz.func58, Tryz.ntmps58
  go_wp2
  go_region_held3 (fun W => W.cell? ⟨w.heap.size, 0, none⟩ = some (.slice la c.log.length lc) ∧ W.cell? ⟨w.heap.size, 1, none⟩ = some (.int .i64 c.repl) ∧ W.cell? ⟨w.heap.size, 2, none⟩ = some (.int .i64 c.clock) ∧ W.cell? ⟨w.heap.size, 3, none⟩ = some (.int .i64 c.acked) ∧ W.cell? ⟨w.heap.size, 4, none⟩ = some (.slice oa c.out.length oc) ∧ W.cell? ⟨w.heap.size, 5, none⟩ = some (.int .i64 c.got)) (first | with_reducible exact hx1 | with_reducible exact hx2 | with_reducible exact hx3 | exact ((((((HB2.out.set (by omega) (by omega)).set (by omega) (by omega)).set (by omega) (by omega)).set (by omega) (by omega)).set (by omega) (by omega)).set (by omega) (by omega)).cells) (first | (go_at_call 81; clear M1; (refine (H1.out _ HBn.out.2).mono ?_); rintro e w1 ⟨rfl, hy1, hb1⟩; have HB1 := hide (HBn.out.step hb1); have HT1 := hide (HT0.out.step (drewB' hb1)); have hx2 := HB1.out.cells; have hy1' : OpsIn w1 (w.heap.size + 1 + 1) 30 c.log := (by simpa [World.drew] using hy1); have HY1 := hide hy1'; have Hz1 := hide hy1'.lt; clear hb1 hy1 hy1') | (go_at_call 81; (refine (H2.out _ HB1.out.2).mono ?_); rintro e w2 ⟨rfl, hy2, hb2⟩; have HB2 := hide (HB1.out.step hb2); have HT2 := hide (HT1.out.step hb2); have hx3 := HB2.out.cells; have HY1' := hide (HY1.out.stays hb2); have HY2 := hide hy2; have Hz2 := hide hy2.lt; obtain ⟨t0, t1, t2, t3, t4, t5, f0, f1, f2, f3, f4, f5⟩ := HT2.out.cells; clear hb2 hy2))
  go_wp2
  have hz1 := Hz1.out
  refine bodyPost_ret (v := .agg #[.int .i64 c.repl, .int .i64 c.clock, .slice (some ⟨w.heap.size + 1 + 1, 0, none⟩) c.log.length c.log.length, .int .i64 c.acked, .slice (some ⟨w1.heap.size, 0, none⟩) c.out.length c.out.length, .int .i64 c.got]) (by simp [results, Tryz.results58, go_sem, t0, t1, t2, t3, t4, t5]) rfl ⟨w.heap.size + 1 + 1, w1.heap.size, rfl, ?_, ?_, by omega, by omega, by omega, ?_⟩
  · exact (((((HY1'.out.setAway (by omega)).setAway (by omega)).setAway (by omega)).setAway (by omega)).setAway (by omega)).setAway (by omega)
  · exact (((((HY2.out.setAway (by omega)).setAway (by omega)).setAway (by omega)).setAway (by omega)).setAway (by omega)).setAway (by omega)
  · exact (((((HB2.out.2.setCell (by simp) _).setCell (by simp) _).setCell (by simp) _).setCell (by simp) _).setCell (by simp) _).setCell (by simp) _
set_option maxRecDepth 100000 in
set_option maxHeartbeats 1000000 in
set_option maxRecDepth 100000 in
set_option maxHeartbeats 1000000 in
set_option maxRecDepth 100000 in
set_option maxHeartbeats 1000000 in
set_option maxRecDepth 100000 in
set_option maxHeartbeats 1000000 in
set_option maxRecDepth 100000 in
set_option maxHeartbeats 1000000 in
set_option maxRecDepth 100000 in
set_option maxHeartbeats 1000000 in
set_option maxRecDepth 100000 in
set_option maxHeartbeats 1000000 in
set_option maxRecDepth 100000 in
set_option maxHeartbeats 1000000 in
set_option maxRecDepth 100000 in
set_option maxHeartbeats 1000000 in
set_option maxRecDepth 100000 in
set_option maxHeartbeats 1000000 in
set_option maxRecDepth 100000 in
set_option maxHeartbeats 1000000 in
set_option maxRecDepth 100000 in
set_option maxHeartbeats 1000000 in
/-- What a hand tells when it is refused something. -/
theorem told_ill {w : World} {f : Nat → Addr} (hS : Sents w f) {code : Int} (hc : ErrCode code) (c : CliV) (la oa : Option Addr) (lc oc : Nat) (o : OpV) (many : Int) :
    Calls Tryz.prog 48 #[c.hand la lc oa oc, o.agg, .int .i64 many, errV f (gOf code)] w fun e w' => ITold w w' e (OutV.ill code) := by
  have hr := fun W (hW : Below w.heap.size w W) => refused_any (hS.step hW) hc
  have HR := hide hr
  have HB0 := hide (HandBox.new w c la lc oa oc)
  have hB3 := (HB0.out.step ((Below.refl _ _).alloc (Nat.le_refl _) (.cells #[.int .i64 o.time, .int .i64 o.repl, .int .i64 o.kind, .int .i64 o.node, .int .i64 o.parent, .string o.name, .string o.value] 30))).step ((Below.refl _ _).alloc (Nat.le_refl _) (.cells #[.int .i64 0, .int .i64 0, .slice none 0 0, .int .i64 0, .slice none 0 0, .int .i64 0, .int .i64 0, .int .i64 0, .int .i64 0, .int .i64 0, .int .i64 0, .string ⟨#[]⟩, .string ⟨#[]⟩, .int .i64 0, .int .i64 0] 32))
  have hR3 : (((w.alloc (.cells #[.slice la c.log.length lc, .int .i64 c.repl, .int .i64 c.clock, .int .i64 c.acked, .slice oa c.out.length oc, .int .i64 c.got] 77)).alloc (.cells #[.int .i64 o.time, .int .i64 o.repl, .int .i64 o.kind, .int .i64 o.node, .int .i64 o.parent, .string o.name, .string o.value] 30)).alloc (.cells #[.int .i64 0, .int .i64 0, .slice none 0 0, .int .i64 0, .slice none 0 0, .int .i64 0, .int .i64 0, .int .i64 0, .int .i64 0, .int .i64 0, .int .i64 0, .string ⟨#[]⟩, .string ⟨#[]⟩, .int .i64 0, .int .i64 0] 32)).heap[w.heap.size + 1 + 1]? = some (.cells #[.int .i64 0, .int .i64 0, .slice none 0 0, .int .i64 0, .slice none 0 0, .int .i64 0, .int .i64 0, .int .i64 0, .int .i64 0, .int .i64 0, .int .i64 0, .string ⟨#[]⟩, .string ⟨#[]⟩, .int .i64 0, .int .i64 0] 32 (0, 0)) := by
    have h := heap_alloc_new ((w.alloc (.cells #[.slice la c.log.length lc, .int .i64 c.repl, .int .i64 c.clock, .int .i64 c.acked, .slice oa c.out.length oc, .int .i64 c.got] 77)).alloc (.cells #[.int .i64 o.time, .int .i64 o.repl, .int .i64 o.kind, .int .i64 o.node, .int .i64 o.parent, .string o.name, .string o.value] 30)) (.cells #[.int .i64 0, .int .i64 0, .slice none 0 0, .int .i64 0, .slice none 0 0, .int .i64 0, .int .i64 0, .int .i64 0, .int .i64 0, .int .i64 0, .int .i64 0, .string ⟨#[]⟩, .string ⟨#[]⟩, .int .i64 0, .int .i64 0] 32)
    rw [show ((w.alloc (.cells #[.slice la c.log.length lc, .int .i64 c.repl, .int .i64 c.clock, .int .i64 c.acked, .slice oa c.out.length oc, .int .i64 c.got] 77)).alloc (.cells #[.int .i64 o.time, .int .i64 o.repl, .int .i64 o.kind, .int .i64 o.node, .int .i64 o.parent, .string o.name, .string o.value] 30)).heap.size = w.heap.size + 1 + 1 by simp] at h
    exact h
  have HB3 := hide hB3
  have HR3 := hide hR3
  unfold errV at *
  unfold CliV.hand OpV.agg
  clear hr hS hB3 hR3
  go_enter Tryz.func48, Tryz.ntmps48
  go_wp2_with (first | (go_at_call 80; (refine (HR.out _ HB3.out.2).mono ?_); rintro e w1 ⟨rfl, hb1⟩; have HB4 := hide (HB3.out.step hb1); have hR4 := (hb1.block _ (Array.getElem?_eq_some_iff.1 HR3.out).1).trans HR3.out; obtain ⟨r0, r1, r2, r3, r4, r5, r6, r7, r8, r9, r10, r11, r12, r13, r14, fr⟩ := fif hR4; clear hb1 hR4))
  refine bodyPost_ret (v := .agg #[.int .i64 0, .int .i64 0, .slice none 0 0, .int .i64 0, .slice none 0 0, .int .i64 0, .int .i64 0, .int .i64 0, .int .i64 0, .int .i64 0, .int .i64 0, .string ⟨#[]⟩, .string ⟨#[]⟩, .int .i64 0, .int .i64 code]) (by simp [results, Tryz.results48, go_sem, r0, r1, r2, r3, r4, r5, r6, r7, r8, r9, r10, r11, r12, r13, r14]) rfl (ITold.ill (below15 HB4.out.2 (by omega) _ _ _ _ _ _ _ _ _ _ _ _ _ _ _))
/-- A hand and an op in variables. -/
structure TA (w W : World) (c : CliV) (la : Option Addr) (lc : Nat) (oa : Option Addr) (oc : Nat) (o : OpV) : Prop where
  hand : HandBox w W w.heap.size c la lc oa oc
  op : W.heap[w.heap.size + 1]? = some (.cells #[.int .i64 o.time, .int .i64 o.repl, .int .i64 o.kind, .int .i64 o.node, .int .i64 o.parent, .string o.name, .string o.value] 30 (0, 0))
section
variable {w W W' : World} {c : CliV} {la : Option Addr} {lc : Nat} {oa : Option Addr} {oc : Nat} {o : OpV}
theorem TA.step (h : TA w W c la lc oa oc o) (hb : Below W.heap.size W W') : TA w W' c la lc oa oc o := ⟨h.hand.step hb, (hb.block _ (Array.getElem?_eq_some_iff.1 h.op).1).trans h.op⟩
theorem TA.cells (h : TA w W c la lc oa oc o) : W.cell? ⟨w.heap.size, 0, none⟩ = some (.slice la c.log.length lc) ∧ W.cell? ⟨w.heap.size, 1, none⟩ = some (.int .i64 c.repl) ∧ W.cell? ⟨w.heap.size, 2, none⟩ = some (.int .i64 c.clock) ∧ W.cell? ⟨w.heap.size, 3, none⟩ = some (.int .i64 c.acked) ∧ W.cell? ⟨w.heap.size, 4, none⟩ = some (.slice oa c.out.length oc) ∧ W.cell? ⟨w.heap.size, 5, none⟩ = some (.int .i64 c.got) ∧ W.cell? ⟨w.heap.size + 1, 0, none⟩ = some (.int .i64 o.time) ∧ W.cell? ⟨w.heap.size + 1, 1, none⟩ = some (.int .i64 o.repl) ∧ W.cell? ⟨w.heap.size + 1, 2, none⟩ = some (.int .i64 o.kind) ∧ W.cell? ⟨w.heap.size + 1, 3, none⟩ = some (.int .i64 o.node) ∧ W.cell? ⟨w.heap.size + 1, 4, none⟩ = some (.int .i64 o.parent) ∧ W.cell? ⟨w.heap.size + 1, 5, none⟩ = some (.string o.name) ∧ W.cell? ⟨w.heap.size + 1, 6, none⟩ = some (.string o.value) := by
  obtain ⟨a0, a1, a2, a3, a4, a5⟩ := h.hand.cells
  have e := h.op
  refine ⟨a0, a1, a2, a3, a4, a5, ?_, ?_, ?_, ?_, ?_, ?_, ?_⟩ <;> simp [World.cell?, e]
theorem TA.set15 (h : TA w W c la lc oa oc o) (v0 v1 v2 v3 v4 v5 v6 v7 v8 v9 v10 v11 v12 v13 v14 : Value) : TA w ((((((((((((((((W.setCell ⟨w.heap.size + 1 + 1, 0, none⟩ v0).setCell ⟨w.heap.size + 1 + 1, 1, none⟩ v1).setCell ⟨w.heap.size + 1 + 1, 2, none⟩ v2).setCell ⟨w.heap.size + 1 + 1, 3, none⟩ v3).setCell ⟨w.heap.size + 1 + 1, 4, none⟩ v4).setCell ⟨w.heap.size + 1 + 1, 5, none⟩ v5).setCell ⟨w.heap.size + 1 + 1, 6, none⟩ v6).setCell ⟨w.heap.size + 1 + 1, 7, none⟩ v7).setCell ⟨w.heap.size + 1 + 1, 8, none⟩ v8).setCell ⟨w.heap.size + 1 + 1, 9, none⟩ v9).setCell ⟨w.heap.size + 1 + 1, 10, none⟩ v10).setCell ⟨w.heap.size + 1 + 1, 11, none⟩ v11).setCell ⟨w.heap.size + 1 + 1, 12, none⟩ v12).setCell ⟨w.heap.size + 1 + 1, 13, none⟩ v13).setCell ⟨w.heap.size + 1 + 1, 14, none⟩ v14)) c la lc oa oc o :=
  ⟨⟨other15 h.hand.1 (by omega) _ _ _ _ _ _ _ _ _ _ _ _ _ _ _, below15 h.hand.2 (by omega) _ _ _ _ _ _ _ _ _ _ _ _ _ _ _⟩, other15 h.op (by omega) _ _ _ _ _ _ _ _ _ _ _ _ _ _ _⟩
end
theorem block15 {w : World} {g : Nat} {T : TypeId} {u0 u1 u2 u3 u4 u5 u6 u7 u8 u9 u10 u11 u12 u13 u14 : Value} (h : w.heap[g]? = some (.cells #[u0, u1, u2, u3, u4, u5, u6, u7, u8, u9, u10, u11, u12, u13, u14] T (0, 0))) (v0 v1 v2 v3 v4 v5 v6 v7 v8 v9 v10 v11 v12 v13 v14 : Value) : ((((((((((((((((w.setCell ⟨g, 0, none⟩ v0).setCell ⟨g, 1, none⟩ v1).setCell ⟨g, 2, none⟩ v2).setCell ⟨g, 3, none⟩ v3).setCell ⟨g, 4, none⟩ v4).setCell ⟨g, 5, none⟩ v5).setCell ⟨g, 6, none⟩ v6).setCell ⟨g, 7, none⟩ v7).setCell ⟨g, 8, none⟩ v8).setCell ⟨g, 9, none⟩ v9).setCell ⟨g, 10, none⟩ v10).setCell ⟨g, 11, none⟩ v11).setCell ⟨g, 12, none⟩ v12).setCell ⟨g, 13, none⟩ v13).setCell ⟨g, 14, none⟩ v14)).heap[g]? = some (.cells #[v0, v1, v2, v3, v4, v5, v6, v7, v8, v9, v10, v11, v12, v13, v14] T (0, 0)) := ((set_block (set_block (set_block (set_block (set_block (set_block (set_block (set_block (set_block (set_block (set_block (set_block (set_block (set_block (set_block h 0 v0) 1 v1) 2 v2) 3 v3) 4 v4) 5 v5) 6 v6) 7 v7) 8 v8) 9 v9) 10 v10) 11 v11) 12 v12) 13 v13) 14 v14)).trans (by kernel_rfl)
theorem skipA' {c c' : World} {o : Obj} (h : Below (c.alloc o).heap.size (c.alloc o) c') : Below c.heap.size c c' := ((Below.refl _ c).alloc (Nat.le_refl _) o).trans (h.mono (by simp))
theorem skipD' {c c' : World} {o : Obj} (h : Below (c.drew.alloc o).heap.size (c.drew.alloc o) c') : Below c.heap.size c c' := drewB' (skipA' h)
theorem size_alloc' (w : World) (o : Obj) : (w.alloc o).heap.size = w.heap.size + 1 := by simp
set_option maxRecDepth 100000 in
set_option maxHeartbeats 16000000 in
/-- What a hand tells when it has done something. -/
theorem told_ok (c : CliV) (la oa : Option Addr) (lc oc : Nat) (o : OpV) (many : Int) (w : World) (hz : CSz 1048576 c) (ho : o.name.size ≤ 1048576 ∧ o.value.size ≤ 1048576) (hA : OpsAt w la c.log) (hC : OpsAt w oa c.out) :
    Calls Tryz.prog 48 #[c.hand la lc oa oc, o.agg, .int .i64 many, .nilIface] w fun e w' => ITold w w' e ⟨c, o, many, 0⟩ := by
  have hcl := fun W (hW : Below w.heap.size w W) => client_any c la oa lc oc W hz (hA.stays hW) (hC.stays hW)
  have how : ∀ W (ao : Option Addr) (cap : Nat) (h : OpsAt W ao [o]), Calls Tryz.prog 81 #[.slice ao 1 cap] W fun e w' => e = .returned (.slice (some ⟨W.heap.size, 0, none⟩) 1 1) ∧ OpsIn w' W.heap.size 30 [o] ∧ Below W.heap.size W w' := fun W ao cap h => own_any [o] ao cap W (by simp) h (by simpa using ho)
  have HCl := hide hcl
  have HOw := hide how
  have HB0 := hide (HandBox.new w c la lc oa oc)
  have hB3 := (HB0.out.step ((Below.refl _ _).alloc (Nat.le_refl _) (.cells #[.int .i64 o.time, .int .i64 o.repl, .int .i64 o.kind, .int .i64 o.node, .int .i64 o.parent, .string o.name, .string o.value] 30))).step ((Below.refl _ _).alloc (Nat.le_refl _) (.cells #[.int .i64 0, .int .i64 0, .slice none 0 0, .int .i64 0, .slice none 0 0, .int .i64 0, .int .i64 0, .int .i64 0, .int .i64 0, .int .i64 0, .int .i64 0, .string ⟨#[]⟩, .string ⟨#[]⟩, .int .i64 0, .int .i64 0] 32))
  have hR3 : (((w.alloc (.cells #[.slice la c.log.length lc, .int .i64 c.repl, .int .i64 c.clock, .int .i64 c.acked, .slice oa c.out.length oc, .int .i64 c.got] 77)).alloc (.cells #[.int .i64 o.time, .int .i64 o.repl, .int .i64 o.kind, .int .i64 o.node, .int .i64 o.parent, .string o.name, .string o.value] 30)).alloc (.cells #[.int .i64 0, .int .i64 0, .slice none 0 0, .int .i64 0, .slice none 0 0, .int .i64 0, .int .i64 0, .int .i64 0, .int .i64 0, .int .i64 0, .int .i64 0, .string ⟨#[]⟩, .string ⟨#[]⟩, .int .i64 0, .int .i64 0] 32)).heap[w.heap.size + 1 + 1]? = some (.cells #[.int .i64 0, .int .i64 0, .slice none 0 0, .int .i64 0, .slice none 0 0, .int .i64 0, .int .i64 0, .int .i64 0, .int .i64 0, .int .i64 0, .int .i64 0, .string ⟨#[]⟩, .string ⟨#[]⟩, .int .i64 0, .int .i64 0] 32 (0, 0)) := by
    have h := heap_alloc_new ((w.alloc (.cells #[.slice la c.log.length lc, .int .i64 c.repl, .int .i64 c.clock, .int .i64 c.acked, .slice oa c.out.length oc, .int .i64 c.got] 77)).alloc (.cells #[.int .i64 o.time, .int .i64 o.repl, .int .i64 o.kind, .int .i64 o.node, .int .i64 o.parent, .string o.name, .string o.value] 30)) (.cells #[.int .i64 0, .int .i64 0, .slice none 0 0, .int .i64 0, .slice none 0 0, .int .i64 0, .int .i64 0, .int .i64 0, .int .i64 0, .int .i64 0, .int .i64 0, .string ⟨#[]⟩, .string ⟨#[]⟩, .int .i64 0, .int .i64 0] 32)
    rw [show ((w.alloc (.cells #[.slice la c.log.length lc, .int .i64 c.repl, .int .i64 c.clock, .int .i64 c.acked, .slice oa c.out.length oc, .int .i64 c.got] 77)).alloc (.cells #[.int .i64 o.time, .int .i64 o.repl, .int .i64 o.kind, .int .i64 o.node, .int .i64 o.parent, .string o.name, .string o.value] 30)).heap.size = w.heap.size + 1 + 1 by simp] at h
    exact h
  have hO3 : (((w.alloc (.cells #[.slice la c.log.length lc, .int .i64 c.repl, .int .i64 c.clock, .int .i64 c.acked, .slice oa c.out.length oc, .int .i64 c.got] 77)).alloc (.cells #[.int .i64 o.time, .int .i64 o.repl, .int .i64 o.kind, .int .i64 o.node, .int .i64 o.parent, .string o.name, .string o.value] 30)).alloc (.cells #[.int .i64 0, .int .i64 0, .slice none 0 0, .int .i64 0, .slice none 0 0, .int .i64 0, .int .i64 0, .int .i64 0, .int .i64 0, .int .i64 0, .int .i64 0, .string ⟨#[]⟩, .string ⟨#[]⟩, .int .i64 0, .int .i64 0] 32)).heap[w.heap.size + 1]? = some (.cells #[.int .i64 o.time, .int .i64 o.repl, .int .i64 o.kind, .int .i64 o.node, .int .i64 o.parent, .string o.name, .string o.value] 30 (0, 0)) := by
    have h := heap_alloc_new (w.alloc (.cells #[.slice la c.log.length lc, .int .i64 c.repl, .int .i64 c.clock, .int .i64 c.acked, .slice oa c.out.length oc, .int .i64 c.got] 77)) (.cells #[.int .i64 o.time, .int .i64 o.repl, .int .i64 o.kind, .int .i64 o.node, .int .i64 o.parent, .string o.name, .string o.value] 30)
    rw [show (w.alloc (.cells #[.slice la c.log.length lc, .int .i64 c.repl, .int .i64 c.clock, .int .i64 c.acked, .slice oa c.out.length oc, .int .i64 c.got] 77)).heap.size = w.heap.size + 1 by simp] at h
    exact (Below.heap_alloc _ _ _ (by simp)).trans h
  have HTA : Hid (TA w (((w.alloc (.cells #[.slice la c.log.length lc, .int .i64 c.repl, .int .i64 c.clock, .int .i64 c.acked, .slice oa c.out.length oc, .int .i64 c.got] 77)).alloc (.cells #[.int .i64 o.time, .int .i64 o.repl, .int .i64 o.kind, .int .i64 o.node, .int .i64 o.parent, .string o.name, .string o.value] 30)).alloc (.cells #[.int .i64 0, .int .i64 0, .slice none 0 0, .int .i64 0, .slice none 0 0, .int .i64 0, .int .i64 0, .int .i64 0, .int .i64 0, .int .i64 0, .int .i64 0, .string ⟨#[]⟩, .string ⟨#[]⟩, .int .i64 0, .int .i64 0] 32)) c la lc oa oc o) := ⟨hB3, hO3⟩
  have HR3 := hide hR3
  have B1 : Below w.heap.size w (((w.alloc (.cells #[.slice la c.log.length lc, .int .i64 c.repl, .int .i64 c.clock, .int .i64 c.acked, .slice oa c.out.length oc, .int .i64 c.got] 77)).alloc (.cells #[.int .i64 o.time, .int .i64 o.repl, .int .i64 o.kind, .int .i64 o.node, .int .i64 o.parent, .string o.name, .string o.value] 30)).alloc (.cells #[.int .i64 0, .int .i64 0, .slice none 0 0, .int .i64 0, .slice none 0 0, .int .i64 0, .int .i64 0, .int .i64 0, .int .i64 0, .int .i64 0, .int .i64 0, .string ⟨#[]⟩, .string ⟨#[]⟩, .int .i64 0, .int .i64 0] 32)).drew := hB3.2.drew
  have B2 : Below w.heap.size w ((((w.alloc (.cells #[.slice la c.log.length lc, .int .i64 c.repl, .int .i64 c.clock, .int .i64 c.acked, .slice oa c.out.length oc, .int .i64 c.got] 77)).alloc (.cells #[.int .i64 o.time, .int .i64 o.repl, .int .i64 o.kind, .int .i64 o.node, .int .i64 o.parent, .string o.name, .string o.value] 30)).alloc (.cells #[.int .i64 0, .int .i64 0, .slice none 0 0, .int .i64 0, .slice none 0 0, .int .i64 0, .int .i64 0, .int .i64 0, .int .i64 0, .int .i64 0, .int .i64 0, .string ⟨#[]⟩, .string ⟨#[]⟩, .int .i64 0, .int .i64 0] 32)).drew.alloc (.cells #[.int .i64 o.time, .int .i64 o.repl, .int .i64 o.kind, .int .i64 o.node, .int .i64 o.parent, .string o.name, .string o.value] 30)) := hB3.2.drew.alloc hB3.2.size (.cells #[.int .i64 o.time, .int .i64 o.repl, .int .i64 o.kind, .int .i64 o.node, .int .i64 o.parent, .string o.name, .string o.value] 30)
  have B3 : Below w.heap.size w ((((w.alloc (.cells #[.slice la c.log.length lc, .int .i64 c.repl, .int .i64 c.clock, .int .i64 c.acked, .slice oa c.out.length oc, .int .i64 c.got] 77)).alloc (.cells #[.int .i64 o.time, .int .i64 o.repl, .int .i64 o.kind, .int .i64 o.node, .int .i64 o.parent, .string o.name, .string o.value] 30)).alloc (.cells #[.int .i64 0, .int .i64 0, .slice none 0 0, .int .i64 0, .slice none 0 0, .int .i64 0, .int .i64 0, .int .i64 0, .int .i64 0, .int .i64 0, .int .i64 0, .string ⟨#[]⟩, .string ⟨#[]⟩, .int .i64 0, .int .i64 0] 32)).alloc (.cells #[.int .i64 o.time, .int .i64 o.repl, .int .i64 o.kind, .int .i64 o.node, .int .i64 o.parent, .string o.name, .string o.value] 30)).drew := (hB3.2.alloc hB3.2.size (.cells #[.int .i64 o.time, .int .i64 o.repl, .int .i64 o.kind, .int .i64 o.node, .int .i64 o.parent, .string o.name, .string o.value] 30)).drew
  have hrow : Hid True := ⟨trivial⟩
  have hrow0 : OpsAt ((((w.alloc (.cells #[.slice la c.log.length lc, .int .i64 c.repl, .int .i64 c.clock, .int .i64 c.acked, .slice oa c.out.length oc, .int .i64 c.got] 77)).alloc (.cells #[.int .i64 o.time, .int .i64 o.repl, .int .i64 o.kind, .int .i64 o.node, .int .i64 o.parent, .string o.name, .string o.value] 30)).alloc (.cells #[.int .i64 0, .int .i64 0, .slice none 0 0, .int .i64 0, .slice none 0 0, .int .i64 0, .int .i64 0, .int .i64 0, .int .i64 0, .int .i64 0, .int .i64 0, .string ⟨#[]⟩, .string ⟨#[]⟩, .int .i64 0, .int .i64 0] 32)).drew.alloc (.cells #[.int .i64 o.time, .int .i64 o.repl, .int .i64 o.kind, .int .i64 o.node, .int .i64 o.parent, .string o.name, .string o.value] 30)) (some ⟨(((w.alloc (.cells #[.slice la c.log.length lc, .int .i64 c.repl, .int .i64 c.clock, .int .i64 c.acked, .slice oa c.out.length oc, .int .i64 c.got] 77)).alloc (.cells #[.int .i64 o.time, .int .i64 o.repl, .int .i64 o.kind, .int .i64 o.node, .int .i64 o.parent, .string o.name, .string o.value] 30)).alloc (.cells #[.int .i64 0, .int .i64 0, .slice none 0 0, .int .i64 0, .slice none 0 0, .int .i64 0, .int .i64 0, .int .i64 0, .int .i64 0, .int .i64 0, .int .i64 0, .string ⟨#[]⟩, .string ⟨#[]⟩, .int .i64 0, .int .i64 0] 32)).drew.heap.size, 0, none⟩) [o] := one_ops (((w.alloc (.cells #[.slice la c.log.length lc, .int .i64 c.repl, .int .i64 c.clock, .int .i64 c.acked, .slice oa c.out.length oc, .int .i64 c.got] 77)).alloc (.cells #[.int .i64 o.time, .int .i64 o.repl, .int .i64 o.kind, .int .i64 o.node, .int .i64 o.parent, .string o.name, .string o.value] 30)).alloc (.cells #[.int .i64 0, .int .i64 0, .slice none 0 0, .int .i64 0, .slice none 0 0, .int .i64 0, .int .i64 0, .int .i64 0, .int .i64 0, .int .i64 0, .int .i64 0, .string ⟨#[]⟩, .string ⟨#[]⟩, .int .i64 0, .int .i64 0] 32)).drew o _
  rw [show (((w.alloc (.cells #[.slice la c.log.length lc, .int .i64 c.repl, .int .i64 c.clock, .int .i64 c.acked, .slice oa c.out.length oc, .int .i64 c.got] 77)).alloc (.cells #[.int .i64 o.time, .int .i64 o.repl, .int .i64 o.kind, .int .i64 o.node, .int .i64 o.parent, .string o.name, .string o.value] 30)).alloc (.cells #[.int .i64 0, .int .i64 0, .slice none 0 0, .int .i64 0, .slice none 0 0, .int .i64 0, .int .i64 0, .int .i64 0, .int .i64 0, .int .i64 0, .int .i64 0, .string ⟨#[]⟩, .string ⟨#[]⟩, .int .i64 0, .int .i64 0] 32)).drew.heap.size = w.heap.size + 1 + 1 + 1 by simp [World.drew]] at hrow0
  have hrow3 : OpsAt ((((w.alloc (.cells #[.slice la c.log.length lc, .int .i64 c.repl, .int .i64 c.clock, .int .i64 c.acked, .slice oa c.out.length oc, .int .i64 c.got] 77)).alloc (.cells #[.int .i64 o.time, .int .i64 o.repl, .int .i64 o.kind, .int .i64 o.node, .int .i64 o.parent, .string o.name, .string o.value] 30)).alloc (.cells #[.int .i64 0, .int .i64 0, .slice none 0 0, .int .i64 0, .slice none 0 0, .int .i64 0, .int .i64 0, .int .i64 0, .int .i64 0, .int .i64 0, .int .i64 0, .string ⟨#[]⟩, .string ⟨#[]⟩, .int .i64 0, .int .i64 0] 32)).alloc (.cells #[.int .i64 o.time, .int .i64 o.repl, .int .i64 o.kind, .int .i64 o.node, .int .i64 o.parent, .string o.name, .string o.value] 30)).drew (some ⟨w.heap.size + 1 + 1 + 1, 0, none⟩) [o] := hrow0
  have hx4 := (TA.step HTA.out (((Below.refl _ _).alloc (Nat.le_refl _) (.cells #[.int .i64 o.time, .int .i64 o.repl, .int .i64 o.kind, .int .i64 o.node, .int .i64 o.parent, .string o.name, .string o.value] 30)).drew)).cells
  have hx0 := (TA.step HTA.out (Below.refl _ _).drew).cells
  have hx3 := (TA.step (TA.step HTA.out (Below.refl _ _).drew) ((Below.refl _ _).alloc (Nat.le_refl _) (.cells #[.int .i64 o.time, .int .i64 o.repl, .int .i64 o.kind, .int .i64 o.node, .int .i64 o.parent, .string o.name, .string o.value] 30))).cells
  unfold CliV.hand OpV.agg CliV.agg at *
  have HA1 := HTA
  have HA2 := HTA
  have hx1 := hx0
  have hx2 := hx0
  clear hcl how hB3 hR3 hO3 hA hC hz
  go_enter Tryz.func48, Tryz.ntmps48
  go_wp2
  go_cut [] from 14 (fun wx => ∃ g1 g2, wx.heap[w.heap.size + 1 + 1]? = some (.cells #[.int .i64 c.repl, .int .i64 c.clock, .slice (some ⟨g1, 0, none⟩) c.log.length c.log.length, .int .i64 c.acked, .slice (some ⟨g2, 0, none⟩) c.out.length c.out.length, .int .i64 c.got, .int .i64 o.time, .int .i64 o.repl, .int .i64 o.kind, .int .i64 o.node, .int .i64 o.parent, .string o.name, .string o.value, .int .i64 many, .int .i64 0] 32 (0, 0)) ∧ OpsIn wx g1 30 c.log ∧ OpsIn wx g2 30 c.out ∧ g1 ≠ g2 ∧ w.heap.size ≤ g1 ∧ w.heap.size ≤ g2 ∧ Below w.heap.size w wx)
  case first =>
    go_region_with (first | (go_at_call 58; refine (HCl.out _ ?_).mono ?_; (first | with_reducible exact B1 | with_reducible exact B2 | with_reducible exact B3 | fail); rintro e w1 ⟨g1, g2, rfl, hg1, hg2, hne, hl1, hl2, hb1⟩; have hq1 : Below (((w.alloc (.cells #[.slice la c.log.length lc, .int .i64 c.repl, .int .i64 c.clock, .int .i64 c.acked, .slice oa c.out.length oc, .int .i64 c.got] 77)).alloc (.cells #[.int .i64 o.time, .int .i64 o.repl, .int .i64 o.kind, .int .i64 o.node, .int .i64 o.parent, .string o.name, .string o.value] 30)).alloc (.cells #[.int .i64 0, .int .i64 0, .slice none 0 0, .int .i64 0, .slice none 0 0, .int .i64 0, .int .i64 0, .int .i64 0, .int .i64 0, .int .i64 0, .int .i64 0, .string ⟨#[]⟩, .string ⟨#[]⟩, .int .i64 0, .int .i64 0] 32)).heap.size (((w.alloc (.cells #[.slice la c.log.length lc, .int .i64 c.repl, .int .i64 c.clock, .int .i64 c.acked, .slice oa c.out.length oc, .int .i64 c.got] 77)).alloc (.cells #[.int .i64 o.time, .int .i64 o.repl, .int .i64 o.kind, .int .i64 o.node, .int .i64 o.parent, .string o.name, .string o.value] 30)).alloc (.cells #[.int .i64 0, .int .i64 0, .slice none 0 0, .int .i64 0, .slice none 0 0, .int .i64 0, .int .i64 0, .int .i64 0, .int .i64 0, .int .i64 0, .int .i64 0, .string ⟨#[]⟩, .string ⟨#[]⟩, .int .i64 0, .int .i64 0] 32)) w1 := (by first | with_reducible exact drewB' hb1 | with_reducible exact skipD' hb1 | with_reducible exact skipA' (drewB' hb1) | fail); have HA1 := hide (HTA.out.step hq1); have hR1 := (hq1.block _ (Array.getElem?_eq_some_iff.1 HR3.out).1).trans HR3.out; have HR1 := hide hR1; (try (first | with_reducible have hrow' := OpsAt.stays hrow0 hb1 | with_reducible have hrow' := OpsAt.stays hrow3 hb1); have hrow := hide hrow'; clear hrow'); obtain ⟨p0, p1, p2, p3, p4, p5, q0, q1, q2, q3, q4, q5, q6⟩ := HA1.out.cells; have HG1 := hide hg1; have HG2 := hide hg2; have HNe := hide (And.intro hne (And.intro hl1 hl2)); clear hb1 hq1 hR1 hg1 hg2 hne hl1 hl2) | (go_at_call 81; (first | with_reducible refine (HOw.out _ (some ⟨w1.heap.size, 0, none⟩) 1 (one_ops w1 o _)).mono ?_ | with_reducible refine (HOw.out w1 _ 1 hrow.out).mono ?_ | fail); rintro e w2 ⟨rfl, hy2, hb2⟩; have hq2 : Below w1.heap.size w1 w2 := (by first | with_reducible exact hb2 | with_reducible exact skipA' hb2 | with_reducible exact skipA' (drewB' hb2) | with_reducible exact drewB' hb2 | fail); have HA2 := hide (HA1.out.step hq2); have HG1' := hide (HG1.out.stays hq2); have HG2' := hide (HG2.out.stays hq2); have hR2 := (hq2.block _ (Array.getElem?_eq_some_iff.1 HR1.out).1).trans HR1.out; obtain ⟨p0, p1, p2, p3, p4, p5, q0, q1, q2, q3, q4, q5, q6⟩ := HA2.out.cells; obtain ⟨r0, r1, r2, r3, r4, r5, r6, r7, r8, r9, r10, r11, r12, r13, r14, fr⟩ := fif hR2; have hd := OpsIn.opAt hy2 (k := 0) (by simp); simp only [Nat.zero_mul, List.getElem_cons_zero] at hd; (try rw [size_alloc'] at hd); obtain ⟨d0, d1, d2, d3, d4, d5, d6⟩ := hd; have HR2 := hide hR2; clear hb2 hy2 hR2 hq2) | fail)
    all_goals (go_wp2_with fail)
    all_goals go_meet
    all_goals (
      have hn := HNe.out
      have hn2 : w.heap.size + 1 + 1 + 1 ≤ g1 := by have := hn.2.1; simp [World.drew] at this; omega
      have hn3 : w.heap.size + 1 + 1 + 1 ≤ g2 := by have := hn.2.2; simp [World.drew] at this; omega
      exact ⟨g1, g2, block15 HR2.out _ _ _ _ _ _ _ _ _ _ _ _ _ _ _, OpsIn.set15 HG1'.out (by omega) _ _ _ _ _ _ _ _ _ _ _ _ _ _ _, OpsIn.set15 HG2'.out (by omega) _ _ _ _ _ _ _ _ _ _ _ _ _ _ _, hn.1, by omega, by omega, below15 HA2.out.hand.2 (by omega) _ _ _ _ _ _ _ _ _ _ _ _ _ _ _⟩)
  case rest =>
    obtain ⟨g1, g2, hr, hg1, hg2, hne, hl1, hl2, hb⟩ := hcut
    obtain ⟨r0, r1, r2, r3, r4, r5, r6, r7, r8, r9, r10, r11, r12, r13, r14, fr⟩ := fif hr
    have HG1 := hide hg1
    have HG2 := hide hg2
    have HN := hide (And.intro hne (And.intro hl1 (And.intro hl2 hb)))
    clear hr hg1 hg2 hne hl1 hl2 hb
    go_wp2
    refine bodyPost_ret (v := .agg #[.int .i64 c.repl, .int .i64 c.clock, .slice (some ⟨g1, 0, none⟩) c.log.length c.log.length, .int .i64 c.acked, .slice (some ⟨g2, 0, none⟩) c.out.length c.out.length, .int .i64 c.got, .int .i64 o.time, .int .i64 o.repl, .int .i64 o.kind, .int .i64 o.node, .int .i64 o.parent, .string o.name, .string o.value, .int .i64 many, .int .i64 0]) (by simp [results, Tryz.results48, go_sem, r0, r1, r2, r3, r4, r5, r6, r7, r8, r9, r10, r11, r12, r13, r14]) rfl ⟨some ⟨g1, 0, none⟩, some ⟨g2, 0, none⟩, rfl, HG1.out.opsAt, HG2.out.opsAt, ⟨.inl ⟨g1, _, rfl, Nat.le_refl _, HG1.out.rowC⟩, .inl ⟨g2, _, rfl, Nat.le_refl _, HG2.out.rowC⟩, fun x y ex ey => by cases ex; cases ey; exact HN.out.1⟩, fun a e => by cases e; exact HN.out.2.1, fun a e => by cases e; exact HN.out.2.2.1, HN.out.2.2.2⟩
end Go.Proofs.YtfkgmkcndchkjaaGreatDoor.OpR
