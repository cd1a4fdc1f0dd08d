/- Proves what impl's reader tells of an op, and of ops. -/
import Derived.Test.YtlphcbgeagmopaaRdI
import Derived.Test.YtlphcbgeagmopaaRdO
namespace Go.Proofs.Ytlphcbgeagmopaa.OpR
open Go.ChangeShapes Go.WideShapes Go.ChangeAt Go.RowKit Go.ChangeMaps
set_option linter.unusedVariables false

theorem IRd.other {w : World} {p : Nat} {t : ByteArray} {st : Option Nat} (h : IRd w p t st) {b i : Nat} {x : Value} (hne : p ≠ b) : IRd (w.setCell ⟨b, i, none⟩ x) p t st := by
  obtain ⟨a, bad, h1, h2, h3⟩ := h
  exact ⟨a, bad, (heap_setCell_other w ⟨b, i, none⟩ p x hne).trans h1, h2, h3⟩
theorem IRd.grownR {w w' : World} {p : Nat} {t : ByteArray} {st : Option Nat} (h : IRd w p t st) {row : Option Nat} (hg : w.grownBy w' row) (hne : row ≠ some p) : IRd w' p t st := by
  have hlt := h.lt
  obtain ⟨a, bad, h1, h2, h3⟩ := h
  exact ⟨a, bad, (hg.block p hlt (fun e => hne e.symm)).trans h1, h2, h3⟩
theorem cells7 {w : World} {g : Nat} {v0 v1 v2 v3 v4 v5 v6 : Value} {T : TypeId} (h : w.heap[g]? = some (.cells #[v0, v1, v2, v3, v4, v5, v6] T (0, 0))) : w.cell? ⟨g, 0, none⟩ = some v0 ∧ w.cell? ⟨g, 1, none⟩ = some v1 ∧ w.cell? ⟨g, 2, none⟩ = some v2 ∧ w.cell? ⟨g, 3, none⟩ = some v3 ∧ w.cell? ⟨g, 4, none⟩ = some v4 ∧ w.cell? ⟨g, 5, none⟩ = some v5 ∧ w.cell? ⟨g, 6, none⟩ = some v6 ∧ w.frozen? ⟨g, 0, none⟩ = false ∧ w.frozen? ⟨g, 1, none⟩ = false ∧ w.frozen? ⟨g, 2, none⟩ = false ∧ w.frozen? ⟨g, 3, none⟩ = false ∧ w.frozen? ⟨g, 4, none⟩ = false ∧ w.frozen? ⟨g, 5, none⟩ = false ∧ w.frozen? ⟨g, 6, none⟩ = false := by
  refine ⟨?_, ?_, ?_, ?_, ?_, ?_, ?_, ?_, ?_, ?_, ?_, ?_, ?_, ?_⟩ <;> simp [World.cell?, World.frozen?, h]
theorem grown_fresh {w X : World} {r : Option Nat} (h : w.grownBy X r) {b i : Nat} {v : Value} (hb : w.heap.size ≤ b) : w.grownBy (X.setCell ⟨b, i, none⟩ v) r :=
  ⟨h.os, h.tape, h.output, by simpa using h.size, fun k hk hn => (heap_setCell_other X ⟨b, i, none⟩ k v (show k ≠ b by omega)).trans (h.block k hk hn)⟩
/-- Impl's reader, with a variable that holds an op. -/
structure Io (w X : World) (p : Nat) (t : ByteArray) (st : Option Nat) (V : Nat) (o : OpV) : Prop where
  rd : IRd X p t st
  lies : X.heap[V]? = some (.cells #[.int .i64 o.time, .int .i64 o.repl, .int .i64 o.kind, .int .i64 o.node, .int .i64 o.parent, .string o.name, .string o.value] 40 (0, 0))
  far : w.heap.size ≤ V
  grown : w.grownBy X (some p)
theorem Io.lt {w X : World} {p : Nat} {t : ByteArray} {st : Option Nat} {V : Nat} {o : OpV} (h : Io w X p t st V o) : V < X.heap.size := (Array.getElem?_eq_some_iff.1 h.lies).1
theorem Io.call {w X Y : World} {p : Nat} {t : ByteArray} {st st' : Option Nat} {V : Nat} {o : OpV} (h : Io w X p t st V o) (hp : p < w.heap.size) (hr : IRd Y p t st') (hg : X.grownBy Y (some p)) : Io w Y p t st' V o :=
  ⟨hr, (hg.block V h.lt (fun e => by cases e; have := h.far; omega)).trans h.lies, h.far, grown_trans' h.grown hg⟩
theorem Io.start {w : World} {p : Nat} {t : ByteArray} {st : Option Nat} (h : IRd w p t st) (o : OpV) : Io w (w.alloc (.cells #[.int .i64 o.time, .int .i64 o.repl, .int .i64 o.kind, .int .i64 o.node, .int .i64 o.parent, .string o.name, .string o.value] 40)) p t st w.heap.size o :=
  ⟨h.stays ((Below.refl _ _).alloc (Nat.le_refl _) _), heap_alloc_new w _, Nat.le_refl _, grown_below' ((Below.refl _ _).alloc (Nat.le_refl _) _)⟩
theorem Io.set {w X : World} {p : Nat} {t : ByteArray} {st : Option Nat} {V : Nat} {o o' : OpV} (h : Io w X p t st V o) (hp : p < w.heap.size) (i : Nat) (u : Value) (ho : (#[.int .i64 o.time, .int .i64 o.repl, .int .i64 o.kind, .int .i64 o.node, .int .i64 o.parent, .string o.name, .string o.value] : Array Value).setIfInBounds i u = #[.int .i64 o'.time, .int .i64 o'.repl, .int .i64 o'.kind, .int .i64 o'.node, .int .i64 o'.parent, .string o'.name, .string o'.value]) : Io w (X.setCell ⟨V, i, none⟩ u) p t st V o' := by
  have hVp : p ≠ V := by have := h.far; omega
  refine ⟨h.rd.other hVp, ?_, h.far, ?_⟩
  · rw [set_block h.lies i u, ho]
  · exact ⟨h.grown.os, h.grown.tape, h.grown.output, by simpa using h.grown.size, fun k hk hne => (heap_setCell_other X ⟨V, i, none⟩ k u (show k ≠ V by have := h.far; omega)).trans (h.grown.block k hk hne)⟩
theorem Io.cells {w X : World} {p : Nat} {t : ByteArray} {st : Option Nat} {V : Nat} {o : OpV} (h : Io w X p t st V o) : X.cell? ⟨V, 0, none⟩ = some (.int .i64 o.time) ∧ X.cell? ⟨V, 1, none⟩ = some (.int .i64 o.repl) ∧ X.cell? ⟨V, 2, none⟩ = some (.int .i64 o.kind) ∧ X.cell? ⟨V, 3, none⟩ = some (.int .i64 o.node) ∧ X.cell? ⟨V, 4, none⟩ = some (.int .i64 o.parent) ∧ X.cell? ⟨V, 5, none⟩ = some (.string o.name) ∧ X.cell? ⟨V, 6, none⟩ = some (.string o.value) := by
  have e := h.lies
  refine ⟨?_, ?_, ?_, ?_, ?_, ?_, ?_⟩ <;> simp [World.cell?, e]
theorem Io.free {w X : World} {p : Nat} {t : ByteArray} {st : Option Nat} {V : Nat} {o : OpV} (h : Io w X p t st V o) (i : Nat) : X.frozen? ⟨V, i, none⟩ = false := by
  have e := h.lies
  simp [World.frozen?, e]

set_option maxRecDepth 100000 in
set_option maxHeartbeats 1000000 in
theorem iRdOp (t : ByteArray) (p a : Nat) (w : World) (ht : t.size ≤ 8000) (h : IRd w p t (some a)) :
    Calls Try.prog 110 #[.pointer (some ⟨p, 0, none⟩)] w fun e w' => e = .returned (rOp t (some a)).1.agg ∧ IRd w' p t (rOp t (some a)).2 ∧ w.grownBy w' (some p) := by
  have hp := h.lt
  have h1 := fun (st : Option Nat) W (hW : IRd W p t st) => iRdNum t p st W ht hW
  have h2 := fun (st : Option Nat) W (hW : IRd W p t st) => iRdText t p st W ht hW
  have H1 := Hid.mk h1
  have H2 := Hid.mk h2
  obtain ⟨⟨n0, s0⟩, e0⟩ : ∃ r, rN t (some a) = r := ⟨_, rfl⟩
  obtain ⟨⟨n1, s1⟩, e1⟩ : ∃ r, rN t s0 = r := ⟨_, rfl⟩
  obtain ⟨⟨n2, s2⟩, e2⟩ : ∃ r, rN t s1 = r := ⟨_, rfl⟩
  obtain ⟨⟨n3, s3⟩, e3⟩ : ∃ r, rN t s2 = r := ⟨_, rfl⟩
  obtain ⟨⟨n4, s4⟩, e4⟩ : ∃ r, rN t s3 = r := ⟨_, rfl⟩
  obtain ⟨⟨t5, s5⟩, e5⟩ : ∃ r, rT t s4 = r := ⟨_, rfl⟩
  obtain ⟨⟨t6, s6⟩, e6⟩ : ∃ r, rT t s5 = r := ⟨_, rfl⟩
  have hop : rOp t (some a) = (⟨n0, n1, n2, n3, n4, t5, t6⟩, s6) := by unfold rOp; simp only [e0, e1, e2, e3, e4, e5, e6]
  have HOp := Hid.mk hop
  have HB0 : Hid (Io (w.alloc (.cells #[.int .i64 0, .int .i64 0, .int .i64 0, .int .i64 0, .int .i64 0, .string ⟨#[]⟩, .string ⟨#[]⟩] 40)) ((w.alloc (.cells #[.int .i64 0, .int .i64 0, .int .i64 0, .int .i64 0, .int .i64 0, .string ⟨#[]⟩, .string ⟨#[]⟩] 40)).alloc (.cells #[.int .i64 0, .int .i64 0, .int .i64 0, .int .i64 0, .int .i64 0, .string ⟨#[]⟩, .string ⟨#[]⟩] 40)) p t (some a) (w.heap.size + 1) OpV.zero) := ⟨by
    have e : (w.alloc (.cells #[.int .i64 0, .int .i64 0, .int .i64 0, .int .i64 0, .int .i64 0, .string ⟨#[]⟩, .string ⟨#[]⟩] 40)).heap.size = w.heap.size + 1 := by simp
    rw [← e]
    exact Io.start (h.stays ((Below.refl _ _).alloc (Nat.le_refl _) _)) OpV.zero⟩
  have hpw := hp
  have hp : p < (w.alloc (.cells #[.int .i64 0, .int .i64 0, .int .i64 0, .int .i64 0, .int .i64 0, .string ⟨#[]⟩, .string ⟨#[]⟩] 40)).heap.size := by simp; omega
  have C0 := H1.out (some a) _ HB0.out.rd
  rw [e0] at C0
  have C0 := Hid.mk C0
  have e1 := Hid.mk e1
  have e2 := Hid.mk e2
  have e3 := Hid.mk e3
  have e4 := Hid.mk e4
  have e5 := Hid.mk e5
  have e6 := Hid.mk e6
  clear e0 hop h1 h2 h
  go_enter Try.func110, Try.ntmps110
  go_wp2_with (first | (go_at_call 109; refine C0.out.mono ?_; rintro e x1 ⟨rfl, hr1, hg1⟩; have HX1 := Hid.mk (HB0.out.call hp hr1 hg1); obtain ⟨k0, k1, k2, k3, k4, k5, k6⟩ := HX1.out.cells; have g0 := HX1.out.free 0; have HB1 := Hid.mk (HX1.out.set (o' := ⟨n0, 0, 0, 0, 0, ⟨#[]⟩, ⟨#[]⟩⟩) hp 0 (.int .i64 n0) rfl); have C1 := H1.out s0 _ HB1.out.rd; rw [e1.out] at C1; have C1 := Hid.mk C1; clear C0 hr1 hg1) | (go_at_call 109; refine C1.out.mono ?_; rintro e x2 ⟨rfl, hr1, hg1⟩; have HX2 := Hid.mk (HB1.out.call hp hr1 hg1); clear k0 k1 k2 k3 k4 k5 k6 g0; obtain ⟨k0, k1, k2, k3, k4, k5, k6⟩ := HX2.out.cells; have g0 := HX2.out.free 1; have HB2 := Hid.mk (HX2.out.set (o' := ⟨n0, n1, 0, 0, 0, ⟨#[]⟩, ⟨#[]⟩⟩) hp 1 (.int .i64 n1) rfl); have C2 := H1.out s1 _ HB2.out.rd; rw [e2.out] at C2; have C2 := Hid.mk C2; clear C1 hr1 hg1) | (go_at_call 109; refine C2.out.mono ?_; rintro e x3 ⟨rfl, hr1, hg1⟩; have HX3 := Hid.mk (HB2.out.call hp hr1 hg1); clear k0 k1 k2 k3 k4 k5 k6 g0; obtain ⟨k0, k1, k2, k3, k4, k5, k6⟩ := HX3.out.cells; have g0 := HX3.out.free 2; have HB3 := Hid.mk (HX3.out.set (o' := ⟨n0, n1, n2, 0, 0, ⟨#[]⟩, ⟨#[]⟩⟩) hp 2 (.int .i64 n2) rfl); have C3 := H1.out s2 _ HB3.out.rd; rw [e3.out] at C3; have C3 := Hid.mk C3; clear C2 hr1 hg1) | (go_at_call 109; refine C3.out.mono ?_; rintro e x4 ⟨rfl, hr1, hg1⟩; have HX4 := Hid.mk (HB3.out.call hp hr1 hg1); clear k0 k1 k2 k3 k4 k5 k6 g0; obtain ⟨k0, k1, k2, k3, k4, k5, k6⟩ := HX4.out.cells; have g0 := HX4.out.free 3; have HB4 := Hid.mk (HX4.out.set (o' := ⟨n0, n1, n2, n3, 0, ⟨#[]⟩, ⟨#[]⟩⟩) hp 3 (.int .i64 n3) rfl); have C4 := H1.out s3 _ HB4.out.rd; rw [e4.out] at C4; have C4 := Hid.mk C4; clear C3 hr1 hg1) | (go_at_call 109; refine C4.out.mono ?_; rintro e x5 ⟨rfl, hr1, hg1⟩; have HX5 := Hid.mk (HB4.out.call hp hr1 hg1); clear k0 k1 k2 k3 k4 k5 k6 g0; obtain ⟨k0, k1, k2, k3, k4, k5, k6⟩ := HX5.out.cells; have g0 := HX5.out.free 4; have HB5 := Hid.mk (HX5.out.set (o' := ⟨n0, n1, n2, n3, n4, ⟨#[]⟩, ⟨#[]⟩⟩) hp 4 (.int .i64 n4) rfl); have C5 := H2.out s4 _ HB5.out.rd; rw [e5.out] at C5; have C5 := Hid.mk C5; clear C4 hr1 hg1) | (go_at_call 137; refine C5.out.mono ?_; rintro e x6 ⟨rfl, hr1, hg1⟩; have HX6 := Hid.mk (HB5.out.call hp hr1 hg1); clear k0 k1 k2 k3 k4 k5 k6 g0; obtain ⟨k0, k1, k2, k3, k4, k5, k6⟩ := HX6.out.cells; have g0 := HX6.out.free 5; have HB6 := Hid.mk (HX6.out.set (o' := ⟨n0, n1, n2, n3, n4, t5, ⟨#[]⟩⟩) hp 5 (.string t5) rfl); have C6 := H2.out s5 _ HB6.out.rd; rw [e6.out] at C6; have C6 := Hid.mk C6; clear C5 hr1 hg1) | (go_at_call 137; refine C6.out.mono ?_; rintro e x7 ⟨rfl, hr1, hg1⟩; have HX7 := Hid.mk (HB6.out.call hp hr1 hg1); clear k0 k1 k2 k3 k4 k5 k6 g0; obtain ⟨k0, k1, k2, k3, k4, k5, k6⟩ := HX7.out.cells; have g0 := HX7.out.free 6; have HB7 := Hid.mk (HX7.out.set (o' := ⟨n0, n1, n2, n3, n4, t5, t6⟩) hp 6 (.string t6) rfl); clear C6 hr1 hg1; have hres : x7.heap[w.heap.size]? = some (.cells #[.int .i64 0, .int .i64 0, .int .i64 0, .int .i64 0, .int .i64 0, .string ⟨#[]⟩, .string ⟨#[]⟩] 40 (0, 0)) := ((HX7.out.grown.block w.heap.size (by simp) (fun e => by cases e; omega)).trans (heap_alloc_new w _)); have HRs := Hid.mk hres; obtain ⟨q0, q1, q2, q3, q4, q5, q6, z0, z1, z2, z3, z4, z5, z6⟩ := cells7 hres; clear hres))
  have hpn : p ≠ w.heap.size := by omega
  have hgW : w.grownBy (x7.setCell ⟨w.heap.size + 1, 6, none⟩ (.string t6)) (some p) := grown_trans' (grown_below' ((Below.refl _ _).alloc (Nat.le_refl _) _)) HB7.out.grown
  refine bodyPost_ret (v := .agg #[.int .i64 n0, .int .i64 n1, .int .i64 n2, .int .i64 n3, .int .i64 n4, .string t5, .string t6]) (by simp [results, Try.results110, go_sem, q0, q1, q2, q3, q4, q5, q6]) rfl ⟨by rw [HOp.out]; rfl, ?_, ?_⟩
  · rw [HOp.out]
    exact ((((((HB7.out.rd.other hpn).other hpn).other hpn).other hpn).other hpn).other hpn).other hpn
  · exact grown_fresh (grown_fresh (grown_fresh (grown_fresh (grown_fresh (grown_fresh (grown_fresh hgW (Nat.le_refl _)) (Nat.le_refl _)) (Nat.le_refl _)) (Nat.le_refl _)) (Nat.le_refl _)) (Nat.le_refl _)) (Nat.le_refl _)
end Go.Proofs.Ytlphcbgeagmopaa.OpR
