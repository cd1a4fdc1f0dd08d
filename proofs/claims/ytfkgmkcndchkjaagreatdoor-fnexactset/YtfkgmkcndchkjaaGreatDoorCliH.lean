/- Proves what the harness does with clients: sizes, copies, comparisons. -/
import Derived.Test.YtfkgmkcndchkjaaGreatDoorCliS
import Derived.Test.YtfkgmkcndchkjaaGreatDoorSzW
import Derived.Test.YtfkgmkcndchkjaaGreatDoorOpS
namespace Go.Proofs.YtfkgmkcndchkjaaGreatDoor.OpR
open Go.ChangeShapes Go.WideShapes Go.ChangeAt Go.RowKit
set_option linter.unusedVariables false

/-- A variable of six cells. -/
def Six (w : World) (g : Nat) (T : TypeId) (v0 v1 v2 v3 v4 v5 : Value) : Prop := w.heap[g]? = some (.cells #[v0, v1, v2, v3, v4, v5] T (0, 0))
section
variable {w w' : World} {g : Nat} {T : TypeId} {v0 v1 v2 v3 v4 v5 : Value}
theorem Six.lt (h : Six w g T v0 v1 v2 v3 v4 v5) : g < w.heap.size := (Array.getElem?_eq_some_iff.1 h).1
theorem Six.step (h : Six w g T v0 v1 v2 v3 v4 v5) (hb : Below w.heap.size w w') : Six w' g T v0 v1 v2 v3 v4 v5 := (hb.block g h.lt).trans h
theorem Six.cells (h : Six w g T v0 v1 v2 v3 v4 v5) : w.cell? ⟨g, 0, none⟩ = some v0 ∧ w.cell? ⟨g, 1, none⟩ = some v1 ∧ w.cell? ⟨g, 2, none⟩ = some v2 ∧ w.cell? ⟨g, 3, none⟩ = some v3 ∧ w.cell? ⟨g, 4, none⟩ = some v4 ∧ w.cell? ⟨g, 5, none⟩ = some v5 ∧ w.frozen? ⟨g, 0, none⟩ = false ∧ w.frozen? ⟨g, 1, none⟩ = false ∧ w.frozen? ⟨g, 2, none⟩ = false ∧ w.frozen? ⟨g, 3, none⟩ = false ∧ w.frozen? ⟨g, 4, none⟩ = false ∧ w.frozen? ⟨g, 5, none⟩ = false := by
  unfold Six at h
  refine ⟨?_, ?_, ?_, ?_, ?_, ?_, ?_, ?_, ?_, ?_, ?_, ?_⟩ <;> simp [World.cell?, World.frozen?, h]
theorem Six.other {b i : Nat} {v : Value} (h : Six w g T v0 v1 v2 v3 v4 v5) (hne : g ≠ b) : Six (w.setCell ⟨b, i, none⟩ v) g T v0 v1 v2 v3 v4 v5 := (Below.heap_setCell _ _ _ _ hne).trans h
theorem Six.set2 (h : Six w g T v0 v1 v2 v3 v4 v5) (v : Value) : Six (w.setCell ⟨g, 2, none⟩ v) g T v0 v1 v v3 v4 v5 := set_block h 2 v
theorem Six.set3 (h : Six w g T v0 v1 v2 v3 v4 v5) (v : Value) : Six (w.setCell ⟨g, 3, none⟩ v) g T v0 v1 v2 v v4 v5 := set_block h 3 v
theorem Six.set4 (h : Six w g T v0 v1 v2 v3 v4 v5) (v : Value) : Six (w.setCell ⟨g, 4, none⟩ v) g T v0 v1 v2 v3 v v5 := set_block h 4 v
theorem Six.set5 (h : Six w g T v0 v1 v2 v3 v4 v5) (v : Value) : Six (w.setCell ⟨g, 5, none⟩ v) g T v0 v1 v2 v3 v4 v := set_block h 5 v
end
theorem CliBox.set {w c : World} {g b i : Nat} {T : TypeId} {x : CliV} {la : Option Addr} {lc : Nat} {oa : Option Addr} {oc : Nat} {v : Value} (h : CliBox w c g T x la lc oa oc) (hne : g ≠ b) (hb : w.heap.size ≤ b) : CliBox w (c.setCell ⟨b, i, none⟩ v) g T x la lc oa oc :=
  ⟨(Below.heap_setCell _ _ _ _ hne).trans h.1, h.2.setCell (p := ⟨b, i, none⟩) hb v⟩
theorem OpsIn.setAway {w : World} {g b i : Nat} {T : TypeId} {l : List OpV} {x : Value} (h : OpsIn w g T l) (hne : g ≠ b) : OpsIn (w.setCell ⟨b, i, none⟩ x) g T l := by
  unfold OpsIn at *
  rw [heap_setCell_other _ _ _ _ hne]; exact h
set_option maxRecDepth 100000 in
set_option maxHeartbeats 400000 in
theorem szClient_any (c : CliV) (la oa : Option Addr) (lc oc : Nat) (w : World) (hz : CSz maxLen c) (hA : OpsAt w la c.log) (hC : OpsAt w oa c.out) :
    Calls Tryz.prog 9 #[c.agg la lc oa oc, .int .i64 1048576] w fun e w' => ∃ m : Int, e = .returned (.int .i64 m) ∧ m ≤ 1048576 ∧ (0 ≤ m → CSz 1048576 c) ∧ Below w.heap.size w w' := by
  have h1 := fun W (hW : Below w.heap.size w W) => szOpS_left 1048576 c.log la lc W (by omega) (by omega) hz.log (hA.stays hW) hz.lsz
  have h2 := fun L h0 hl W (hW : Below w.heap.size w W) => szOpS_left L c.out oa oc W h0 hl hz.out (hC.stays hW) hz.osz
  have H1 := hide h1
  have H2 := hide h2
  have HB0 := hide (CliBox.new w 24 c la lc oa oc)
  have M1 : Hid True := ⟨trivial⟩
  obtain ⟨p0, p1, p2, p3, p4, p5⟩ := HB0.out.cells
  unfold CliV.agg
  clear h1 h2 hA hC hz
  go_enter Tryz.func9, Tryz.ntmps9
  go_wp2_with (first | (go_at_call 34; clear M1; refine (H1.out _ HB0.out.2).mono ?_; rintro e w1 ⟨m1, rfl, hm1, hq1, hb1⟩; have HB1 := hide (HB0.out.step hb1); have HQ1 := hide hq1; clear p0 p1 p2 p3 p4 p5 hb1 hq1 H1; obtain ⟨p0, p1, p2, p3, p4, p5⟩ := HB1.out.cells) | (go_at_call 34; refine (H2.out m1 (by omega) (by omega) _ HB1.out.2).mono ?_; rintro e w2 ⟨m2, rfl, hm2, hq2, hb2⟩; have HB2 := hide (HB1.out.step hb2); have HQ2 := hide hq2; clear hb2 hq2))
  · go_ret
    exact ⟨-1, rfl, by omega, fun h => by omega, HB1.out.2⟩
  · go_ret
    exact ⟨-1, rfl, by omega, fun h => by omega, HB2.out.2⟩
  · go_ret
    refine ⟨m2, rfl, by omega, fun h => ?_, HB2.out.2⟩
    obtain ⟨a1, a2⟩ := HQ1.out (by omega)
    obtain ⟨b1, b2⟩ := HQ2.out (by omega)
    exact ⟨a1, b1, a2, b2⟩
set_option maxRecDepth 100000 in
set_option maxHeartbeats 1000000 in
theorem toClient_any (c : CliV) (la oa : Option Addr) (lc oc : Nat) (w : World) (hz : CSz 1048576 c) (hA : OpsAt w la c.log) (hC : OpsAt w oa c.out) :
    Calls Tryz.prog 11 #[c.agg la lc oa oc] w fun e w' => ∃ g1 g2, e = .returned (c.agg (some ⟨g1, 0, none⟩) c.log.length (some ⟨g2, 0, none⟩) c.out.length) ∧ OpsIn w' g1 30 c.log ∧ OpsIn w' g2 30 c.out ∧ w.heap.size ≤ g1 ∧ g1 < g2 ∧ Below w.heap.size w w' := by
  have h1 := fun W (hW : Below w.heap.size w W) => toOpS_any c.log la lc W hz.log (hA.stays hW)
  have h2 := fun W (hW : Below w.heap.size w W) => toOpS_any c.out oa oc W hz.out (hC.stays hW)
  have H1 := hide h1
  have H2 := hide h2
  have HB0 := hide (CliBox.new w 24 c la lc oa oc)
  have M1 : Hid True := ⟨trivial⟩
  unfold CliV.agg
  clear h1 h2 hA hC hz
  go_enter Tryz.func11, Tryz.ntmps11
  have HS0 : Hid (Six (((w.alloc (.cells #[.int .i64 c.repl, .int .i64 c.clock, .slice la c.log.length lc, .int .i64 c.acked, .slice oa c.out.length oc, .int .i64 c.got] 24)).alloc (.cells #[.int .i64 0, .int .i64 0, .slice none 0 0, .int .i64 0, .slice none 0 0, .int .i64 0] 28)).alloc (.cells #[.int .i64 c.repl, .int .i64 c.clock, .slice none 0 0, .int .i64 0, .slice none 0 0, .int .i64 0] 28)) (w.heap.size + 1 + 1) 28 (.int .i64 c.repl) (.int .i64 c.clock) (.slice none 0 0) (.int .i64 0) (.slice none 0 0) (.int .i64 0)) := ⟨by
    have h := heap_alloc_new ((w.alloc (.cells #[.int .i64 c.repl, .int .i64 c.clock, .slice la c.log.length lc, .int .i64 c.acked, .slice oa c.out.length oc, .int .i64 c.got] 24)).alloc (.cells #[.int .i64 0, .int .i64 0, .slice none 0 0, .int .i64 0, .slice none 0 0, .int .i64 0] 28)) (.cells #[.int .i64 c.repl, .int .i64 c.clock, .slice none 0 0, .int .i64 0, .slice none 0 0, .int .i64 0] 28)
    simpa [Six] using h⟩
  have HT0 : Hid (Six (((w.alloc (.cells #[.int .i64 c.repl, .int .i64 c.clock, .slice la c.log.length lc, .int .i64 c.acked, .slice oa c.out.length oc, .int .i64 c.got] 24)).alloc (.cells #[.int .i64 0, .int .i64 0, .slice none 0 0, .int .i64 0, .slice none 0 0, .int .i64 0] 28)).alloc (.cells #[.int .i64 c.repl, .int .i64 c.clock, .slice none 0 0, .int .i64 0, .slice none 0 0, .int .i64 0] 28)) (w.heap.size + 1) 28 (.int .i64 0) (.int .i64 0) (.slice none 0 0) (.int .i64 0) (.slice none 0 0) (.int .i64 0)) := ⟨by
    have h := heap_alloc_new (w.alloc (.cells #[.int .i64 c.repl, .int .i64 c.clock, .slice la c.log.length lc, .int .i64 c.acked, .slice oa c.out.length oc, .int .i64 c.got] 24)) (.cells #[.int .i64 0, .int .i64 0, .slice none 0 0, .int .i64 0, .slice none 0 0, .int .i64 0] 28)
    have h2 : Six ((w.alloc (.cells #[.int .i64 c.repl, .int .i64 c.clock, .slice la c.log.length lc, .int .i64 c.acked, .slice oa c.out.length oc, .int .i64 c.got] 24)).alloc (.cells #[.int .i64 0, .int .i64 0, .slice none 0 0, .int .i64 0, .slice none 0 0, .int .i64 0] 28)) (w.heap.size + 1) 28 (.int .i64 0) (.int .i64 0) (.slice none 0 0) (.int .i64 0) (.slice none 0 0) (.int .i64 0) := by simpa [Six] using h
    exact h2.step ((Below.refl _ _).alloc (Nat.le_refl _) _)⟩
  have HBn := hide ((HB0.out.step ((Below.refl _ _).alloc (Nat.le_refl _) (.cells #[.int .i64 0, .int .i64 0, .slice none 0 0, .int .i64 0, .slice none 0 0, .int .i64 0] 28))).step ((Below.refl _ _).alloc (Nat.le_refl _) (.cells #[.int .i64 c.repl, .int .i64 c.clock, .slice none 0 0, .int .i64 0, .slice none 0 0, .int .i64 0] 28)))
  go_wp2_with (first | (go_at_call 36; clear M1; refine (H1.out _ HBn.out.2).mono ?_; rintro e w1 ⟨rfl, hx1, hb1⟩; have HB1 := hide (HBn.out.step hb1); have HS1 := hide (HS0.out.step hb1); have hx1' : OpsIn w1 (w.heap.size + 1 + 1 + 1) 30 c.log := (by simpa using hx1); have HX1 := hide hx1'; have hz1 := hx1'.lt; have hz0 := hb1.size; have hb1' := hb1; clear hx1 hx1' hb1; obtain ⟨p0, p1, p2, p3, p4, p5⟩ := HB1.out.cells; have HT1 := hide (HT0.out.step hb1'); obtain ⟨r0, r1, r2, r3, r4, r5, f0, f1, f2, f3, f4, f5⟩ := HS1.out.cells) | (go_at_call 36; have hBs := HB1.out.2; (refine (H2.out _ ((hBs.setCell (p := ⟨w.heap.size + 1 + 1, 2, none⟩) (by show w.heap.size ≤ w.heap.size + 1 + 1; omega) _).setCell (p := ⟨w.heap.size + 1 + 1, 3, none⟩) (by show w.heap.size ≤ w.heap.size + 1 + 1; omega) _)).mono ?_); (rintro e w2 ⟨rfl, hx2, hb2⟩); (have HB2 := hide (((HB1.out.set (by omega) (by omega)).set (by omega) (by omega)).step hb2); have HS2 := hide (((HS1.out.set2 _).set3 _).step hb2); have HT2 := hide (((HT1.out.other (by omega)).other (by omega)).step hb2); have HX12 := hide (((HX1.out.setAway (by omega)).setAway (by omega)).stays hb2); have hx2' : OpsIn w2 w1.heap.size 30 c.out := (by simpa using hx2); have HX2 := hide hx2'; have hz2 := hx2'.lt; have hz3 := hb2.size); clear p0 p1 p2 p3 p4 p5 r0 r1 r2 r3 r4 r5 f0 f1 f2 f3 f4 f5 hx2 hx2' hb2 hBs; obtain ⟨p0, p1, p2, p3, p4, p5⟩ := HB2.out.cells; obtain ⟨r0, r1, r2, r3, r4, r5, f0, f1, f2, f3, f4, f5⟩ := HS2.out.cells; obtain ⟨t0, t1, t2, t3, t4, t5, g0, g1, g2, g3, g4, g5⟩ := HT2.out.cells))
  have hz1' := HX1.out.lt
  refine bodyPost_ret (v := .agg #[.int .i64 c.repl, .int .i64 c.clock, .slice (some ⟨w.heap.size + 1 + 1 + 1, 0, none⟩) c.log.length c.log.length, .int .i64 c.acked, .slice (some ⟨w1.heap.size, 0, none⟩) c.out.length c.out.length, .int .i64 c.got]) (by simp [results, Tryz.results11, go_sem, t0, t1, t2, t3, t4, t5]) rfl ⟨w.heap.size + 1 + 1 + 1, w1.heap.size, rfl, ?_, ?_, by omega, hz1', ?_⟩
  · exact (((((((HX12.out.setAway (by omega)).setAway (by omega)).setAway (by omega)).setAway (by omega)).setAway (by omega)).setAway (by omega)).setAway (by omega)).setAway (by omega)
  · exact (((((((HX2.out.setAway (by omega)).setAway (by omega)).setAway (by omega)).setAway (by omega)).setAway (by omega)).setAway (by omega)).setAway (by omega)).setAway (by omega)
  · exact (((((((HB2.out.2.setCell (by simp; omega) _).setCell (by simp; omega) _).setCell (by simp) _).setCell (by simp) _).setCell (by simp) _).setCell (by simp) _).setCell (by simp) _).setCell (by simp) _
set_option maxRecDepth 100000 in
set_option maxHeartbeats 400000 in
theorem eqClient_same (c : CliV) (la oa lb ob : Option Addr) (lc oc ld od : Nat) (w : World) (hl : c.log.length ≤ maxLen) (ho : c.out.length ≤ maxLen) (hA : OpsAt w la c.log) (hC : OpsAt w oa c.out) (hB : OpsAt w lb c.log) (hD : OpsAt w ob c.out) :
    Calls Tryz.prog 14 #[c.agg la lc oa oc, c.agg lb ld ob od] w fun e w' => e = .returned (.bool true) ∧ Below w.heap.size w w' := by
  have h1 := fun W (hW : Below w.heap.size w W) => eqOpS_same c.log la lb lc ld W hl (hA.stays hW) (hB.stays hW)
  have h2 := fun W (hW : Below w.heap.size w W) => eqOpS_same c.out oa ob oc od W ho (hC.stays hW) (hD.stays hW)
  have H1 := hide h1
  have H2 := hide h2
  have hc0 := CliBox.new w 28 c la lc oa oc
  have HB0 := hide (hc0.step ((Below.refl _ _).alloc (Nat.le_refl _) (.cells #[.int .i64 c.repl, .int .i64 c.clock, .slice lb c.log.length ld, .int .i64 c.acked, .slice ob c.out.length od, .int .i64 c.got] 28)))
  have hd0 : Six ((w.alloc (.cells #[.int .i64 c.repl, .int .i64 c.clock, .slice la c.log.length lc, .int .i64 c.acked, .slice oa c.out.length oc, .int .i64 c.got] 28)).alloc (.cells #[.int .i64 c.repl, .int .i64 c.clock, .slice lb c.log.length ld, .int .i64 c.acked, .slice ob c.out.length od, .int .i64 c.got] 28)) (w.heap.size + 1) 28 (.int .i64 c.repl) (.int .i64 c.clock) (.slice lb c.log.length ld) (.int .i64 c.acked) (.slice ob c.out.length od) (.int .i64 c.got) := by
    have h := heap_alloc_new (w.alloc (.cells #[.int .i64 c.repl, .int .i64 c.clock, .slice la c.log.length lc, .int .i64 c.acked, .slice oa c.out.length oc, .int .i64 c.got] 28)) (.cells #[.int .i64 c.repl, .int .i64 c.clock, .slice lb c.log.length ld, .int .i64 c.acked, .slice ob c.out.length od, .int .i64 c.got] 28)
    simpa [Six] using h
  have HD0 := hide hd0
  obtain ⟨p0, p1, p2, p3, p4, p5⟩ := HB0.out.cells
  obtain ⟨q0, q1, q2, q3, q4, q5, _⟩ := HD0.out.cells
  unfold CliV.agg
  have M1 : Hid True := ⟨trivial⟩
  clear h1 h2 hA hC hB hD hc0 hd0 hl ho
  go_enter Tryz.func14, Tryz.ntmps14
  go_wp2_with (first | (go_at_call 38; clear M1; (refine (H1.out _ HB0.out.2).mono ?_); rintro e w1 ⟨rfl, hb1⟩; have HB1 := hide (HB0.out.step hb1); have HD1 := hide (HD0.out.step hb1); clear H1 p0 p1 p2 p3 p4 p5 q0 q1 q2 q3 q4 q5 hb1; obtain ⟨p0, p1, p2, p3, p4, p5⟩ := HB1.out.cells; obtain ⟨q0, q1, q2, q3, q4, q5, _⟩ := HD1.out.cells) | (go_at_call 38; (refine (H2.out _ HB1.out.2).mono ?_); rintro e w2 ⟨rfl, hb2⟩; have HB2 := hide (HB1.out.step hb2); have HD2 := hide (HD1.out.step hb2); clear p0 p1 p2 p3 p4 p5 q0 q1 q2 q3 q4 q5 hb2; obtain ⟨p0, p1, p2, p3, p4, p5⟩ := HB2.out.cells; obtain ⟨q0, q1, q2, q3, q4, q5, _⟩ := HD2.out.cells))
  go_ret
  exact ⟨rfl, HB2.out.2⟩
end Go.Proofs.YtfkgmkcndchkjaaGreatDoor.OpR
