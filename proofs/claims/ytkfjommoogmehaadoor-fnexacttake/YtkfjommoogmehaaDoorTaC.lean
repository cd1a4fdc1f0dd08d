/- Proves what spec's copies of a client are, and what it tells of a fault. Proves what spec.Take refuses at once. Proves what spec.Take answers behind its first refusals. -/
import Derived.Test.YtkfjommoogmehaaDoorCliH
import Derived.Test.YtkfjommoogmehaaDoorCliS
import Derived.Test.YtkfjommoogmehaaDoorAddW
import Derived.Test.YtkfjommoogmehaaDoorCliQ
import Derived.Test.YtkfjommoogmehaaDoorCliF
import Derived.Test.YtkfjommoogmehaaDoorCameC
import Derived.Test.YtkfjommoogmehaaDoorTkA
import Derived.Test.YtkfjommoogmehaaDoorTaA
import Derived.Test.YtkfjommoogmehaaDoorCliT
namespace Go.Proofs.YtkfjommoogmehaaDoor.OpR
open Go.ChangeShapes Go.WideShapes Go.ChangeAt Go.RowKit
set_option linter.unusedVariables false

theorem OwnAt.lower {w : World} {base base' : Nat} {T : TypeId} {v : Value} {l : List OpV} (h : OwnAt w base T v l) (hb : base' ≤ base) : OwnAt w base' T v l := ⟨owns_base h.1 hb, h.2⟩
/-- What spec tells. -/
def STold (w w' : World) (e : Ending) (x : OutV) : Prop := ∃ la lc oa oc, e = .returned (x.agg la lc oa oc) ∧ OpsAt w' la x.cl.log ∧ OpsAt w' oa x.cl.out ∧ Below w.heap.size w w'
theorem STold.ill {w w' : World} {code : Int} (hb : Below w.heap.size w w') : STold w w' (.returned ((OutV.ill code).agg none 0 none 0)) (OutV.ill code) :=
  ⟨none, 0, none, 0, rfl, fun j hj => absurd hj (by simp [OutV.ill, CliV.zero]), fun j hj => absurd hj (by simp [OutV.ill, CliV.zero]), hb⟩
set_option maxRecDepth 100000 in
set_option maxHeartbeats 400000 in
theorem sIll_any (code : Int) (w : World) :
    Calls Tryd.prog 18 #[.int .i64 code] w fun e w' => e = .returned (.agg #[.int .i64 0, .int .i64 0, .slice none 0 0, .int .i64 0, .slice none 0 0, .int .i64 0, .int .i64 0, .int .i64 0, .int .i64 0, .int .i64 0, .int .i64 0, .string ⟨#[]⟩, .string ⟨#[]⟩, .int .i64 0, .int .i64 code]) ∧ Below w.heap.size w w' := by
  go_enter Tryd.func18, Tryd.ntmps18
  go_wp2
  refine bodyPost_ret (v := .agg #[.int .i64 0, .int .i64 0, .slice none 0 0, .int .i64 0, .slice none 0 0, .int .i64 0, .int .i64 0, .int .i64 0, .int .i64 0, .int .i64 0, .int .i64 0, .string ⟨#[]⟩, .string ⟨#[]⟩, .int .i64 0, .int .i64 code]) (by simp [results, Tryd.results18, go_sem]) rfl ⟨rfl, (Below.refl _ _).alloc (Nat.le_refl _) _⟩
set_option maxRecDepth 100000 in
set_option maxHeartbeats 1000000 in
theorem sCopy_any (c : CliV) (la oa : Option Addr) (lc oc : Nat) (w : World) (hl : c.log.length ≤ 150) (ho : c.out.length ≤ 150) (hA : OpsAt w la c.log) (hC : OpsAt w oa c.out) :
    Calls Tryd.prog 24 #[c.agg la lc oa oc] w fun e w' => ∃ v1 v2, e = .returned (.agg #[.int .i64 c.repl, .int .i64 c.clock, v1, .int .i64 c.acked, v2, .int .i64 c.got]) ∧ OwnAt w' w.heap.size 31 v1 c.log ∧ OwnAt w' w.heap.size 31 v2 c.out ∧ v1.ownBlock ≠ v2.ownBlock ∧ Below w.heap.size w w' := by
  have HA := hide hA
  have HC := hide hC
  have HB0 := hide (CliBox.new w 29 c la lc oa oc)
  unfold CliV.agg
  clear hA hC
  have hE : (((w.alloc (.cells #[.int .i64 c.repl, .int .i64 c.clock, .slice la c.log.length lc, .int .i64 c.acked, .slice oa c.out.length oc, .int .i64 c.got] 29)).alloc (.cells #[.int .i64 0, .int .i64 0, .slice none 0 0, .int .i64 0, .slice none 0 0, .int .i64 0] 29)).alloc (.cells #[] 31)).ownsRow (w.heap.size + 1 + 1) 31 7 (.slice (some ⟨w.heap.size + 1 + 1, 0, none⟩) 0 0) 0 [] := by
    have h := empty_row ((w.alloc (.cells #[.int .i64 c.repl, .int .i64 c.clock, .slice la c.log.length lc, .int .i64 c.acked, .slice oa c.out.length oc, .int .i64 c.got] 29)).alloc (.cells #[.int .i64 0, .int .i64 0, .slice none 0 0, .int .i64 0, .slice none 0 0, .int .i64 0] 29))
    rw [show ((w.alloc (.cells #[.int .i64 c.repl, .int .i64 c.clock, .slice la c.log.length lc, .int .i64 c.acked, .slice oa c.out.length oc, .int .i64 c.got] 29)).alloc (.cells #[.int .i64 0, .int .i64 0, .slice none 0 0, .int .i64 0, .slice none 0 0, .int .i64 0] 29)).heap.size = w.heap.size + 1 + 1 by simp] at h
    exact h
  have hP : Six (((w.alloc (.cells #[.int .i64 c.repl, .int .i64 c.clock, .slice la c.log.length lc, .int .i64 c.acked, .slice oa c.out.length oc, .int .i64 c.got] 29)).alloc (.cells #[.int .i64 0, .int .i64 0, .slice none 0 0, .int .i64 0, .slice none 0 0, .int .i64 0] 29)).alloc (.cells #[] 31)) w.heap.size 29 (.int .i64 c.repl) (.int .i64 c.clock) (.slice la c.log.length lc) (.int .i64 c.acked) (.slice oa c.out.length oc) (.int .i64 c.got) := by
    have h : Six (w.alloc (.cells #[.int .i64 c.repl, .int .i64 c.clock, .slice la c.log.length lc, .int .i64 c.acked, .slice oa c.out.length oc, .int .i64 c.got] 29)) w.heap.size 29 (.int .i64 c.repl) (.int .i64 c.clock) (.slice la c.log.length lc) (.int .i64 c.acked) (.slice oa c.out.length oc) (.int .i64 c.got) := heap_alloc_new w _
    exact (h.step ((Below.refl _ _).alloc (Nat.le_refl _) _)).step ((Below.refl _ _).alloc (Nat.le_refl _) _)
  have hR : Six (((w.alloc (.cells #[.int .i64 c.repl, .int .i64 c.clock, .slice la c.log.length lc, .int .i64 c.acked, .slice oa c.out.length oc, .int .i64 c.got] 29)).alloc (.cells #[.int .i64 0, .int .i64 0, .slice none 0 0, .int .i64 0, .slice none 0 0, .int .i64 0] 29)).alloc (.cells #[] 31)) (w.heap.size + 1) 29 (.int .i64 0) (.int .i64 0) (.slice none 0 0) (.int .i64 0) (.slice none 0 0) (.int .i64 0) := by
    have h := heap_alloc_new (w.alloc (.cells #[.int .i64 c.repl, .int .i64 c.clock, .slice la c.log.length lc, .int .i64 c.acked, .slice oa c.out.length oc, .int .i64 c.got] 29)) (.cells #[.int .i64 0, .int .i64 0, .slice none 0 0, .int .i64 0, .slice none 0 0, .int .i64 0] 29)
    rw [show (w.alloc (.cells #[.int .i64 c.repl, .int .i64 c.clock, .slice la c.log.length lc, .int .i64 c.acked, .slice oa c.out.length oc, .int .i64 c.got] 29)).heap.size = w.heap.size + 1 by simp] at h
    have h2 : Six ((w.alloc (.cells #[.int .i64 c.repl, .int .i64 c.clock, .slice la c.log.length lc, .int .i64 c.acked, .slice oa c.out.length oc, .int .i64 c.got] 29)).alloc (.cells #[.int .i64 0, .int .i64 0, .slice none 0 0, .int .i64 0, .slice none 0 0, .int .i64 0] 29)) (w.heap.size + 1) 29 (.int .i64 0) (.int .i64 0) (.slice none 0 0) (.int .i64 0) (.slice none 0 0) (.int .i64 0) := h
    exact h2.step ((Below.refl _ _).alloc (Nat.le_refl _) _)
  have hB : Below w.heap.size w (((w.alloc (.cells #[.int .i64 c.repl, .int .i64 c.clock, .slice la c.log.length lc, .int .i64 c.acked, .slice oa c.out.length oc, .int .i64 c.got] 29)).alloc (.cells #[.int .i64 0, .int .i64 0, .slice none 0 0, .int .i64 0, .slice none 0 0, .int .i64 0] 29)).alloc (.cells #[] 31)) := (((Below.refl _ _).alloc (Nat.le_refl _) _).alloc (by simp) _).alloc (by simp; omega) _
  have hAx := HA.out.stays hB
  have HE := hide hE
  have HP := hide hP
  have HR := hide hR
  have HBe := hide hB
  have HAx := hide hAx
  clear hE hP hR hB hAx
  obtain ⟨p0, p1, p2, p3, p4, p5, f0, f1, f2, f3, f4, f5⟩ := HP.out.cells
  go_enter Tryd.func24, Tryd.ntmps24
  go_wp2_with (at_builtin; (refine wpList_append_ops rfl _ _ rfl (w.heap.size + 1 + 1) _ [] rfl HE.out la c.log lc rfl HAx.out (by simp <;> omega) (by simp) ?_))
  intro v1 w1 hown1 hgr1 hne1
  have hs3 : (((w.alloc (.cells #[.int .i64 c.repl, .int .i64 c.clock, .slice la c.log.length lc, .int .i64 c.acked, .slice oa c.out.length oc, .int .i64 c.got] 29)).alloc (.cells #[.int .i64 0, .int .i64 0, .slice none 0 0, .int .i64 0, .slice none 0 0, .int .i64 0] 29)).alloc (.cells #[] 31)).heap.size = w.heap.size + 1 + 1 + 1 := by simp
  have hP1 : Six w1 w.heap.size 29 (.int .i64 c.repl) (.int .i64 c.clock) (.slice la c.log.length lc) (.int .i64 c.acked) (.slice oa c.out.length oc) (.int .i64 c.got) := (hgr1.block _ (by omega) (fun e => by simp [Value.ownBlock] at e; omega)).trans HP.out
  have hR1 : Six w1 (w.heap.size + 1) 29 (.int .i64 0) (.int .i64 0) (.slice none 0 0) (.int .i64 0) (.slice none 0 0) (.int .i64 0) := (hgr1.block _ (by omega) (fun e => by simp [Value.ownBlock] at e)).trans HR.out
  have hB1 : Below w.heap.size w w1 := HBe.out.grown hgr1 (by omega) (fun j hj => by simp [Value.ownBlock] at hj; omega)
  have HOw1 : Hid (OwnAt w1 (w.heap.size + 1 + 1) 31 v1 c.log) := ⟨by simpa using hown1, fun e => by first | exact hne1 e | (have := (hne1.1 e).1; simp at this)⟩
  have Hs1 := hide (Nat.le_trans (Nat.le_of_eq hs3.symm) hgr1.size)
  obtain ⟨h1, c1, rfl, hh1, hlt1, _, _, _⟩ := HOw1.out.at
  have hE2 : ((w1.setCell ⟨w.heap.size, 2, none⟩ (.slice (some ⟨h1, 0, none⟩) c.log.length c1)).alloc (.cells #[] 31)).ownsRow w1.heap.size 31 7 (.slice (some ⟨w1.heap.size, 0, none⟩) 0 0) 0 [] := by
    have h := empty_row (w1.setCell ⟨w.heap.size, 2, none⟩ (.slice (some ⟨h1, 0, none⟩) c.log.length c1))
    rw [show (w1.setCell ⟨w.heap.size, 2, none⟩ (.slice (some ⟨h1, 0, none⟩) c.log.length c1)).heap.size = w1.heap.size by simp] at h
    exact h
  have hw1 : w.heap.size < w1.heap.size := by have := Hs1.out; omega
  have hP2 : Six ((w1.setCell ⟨w.heap.size, 2, none⟩ (.slice (some ⟨h1, 0, none⟩) c.log.length c1)).alloc (.cells #[] 31)) w.heap.size 29 (.int .i64 c.repl) (.int .i64 c.clock) (.slice (some ⟨h1, 0, none⟩) c.log.length c1) (.int .i64 c.acked) (.slice oa c.out.length oc) (.int .i64 c.got) := (Six.set2 hP1 _).step ((Below.refl _ _).alloc (Nat.le_refl _) _)
  have hR2 : Six ((w1.setCell ⟨w.heap.size, 2, none⟩ (.slice (some ⟨h1, 0, none⟩) c.log.length c1)).alloc (.cells #[] 31)) (w.heap.size + 1) 29 (.int .i64 0) (.int .i64 0) (.slice none 0 0) (.int .i64 0) (.slice none 0 0) (.int .i64 0) := (Six.other hR1 (by omega)).step ((Below.refl _ _).alloc (Nat.le_refl _) _)
  have hB2 : Below w.heap.size w ((w1.setCell ⟨w.heap.size, 2, none⟩ (.slice (some ⟨h1, 0, none⟩) c.log.length c1)).alloc (.cells #[] 31)) := (hB1.setCell (p := ⟨w.heap.size, 2, none⟩) (Nat.le_refl _) _).alloc (by simp; omega) _
  have hC2 := HC.out.stays hB2
  have hO2 : OwnAt ((w1.setCell ⟨w.heap.size, 2, none⟩ (.slice (some ⟨h1, 0, none⟩) c.log.length c1)).alloc (.cells #[] 31)) (w.heap.size + 1 + 1) 31 (.slice (some ⟨h1, 0, none⟩) c.log.length c1) c.log := (OwnAt.setCell HOw1.out (by omega)).below ((Below.refl _ _).alloc (Nat.le_refl _) _)
  have HP2 := hide hP2
  have HR2 := hide hR2
  have HB2 := hide hB2
  have HE2 := hide hE2
  have HC2 := hide hC2
  have HO2 := hide hO2
  have HH1 := hide (And.intro hh1 hlt1)
  clear p0 p1 p2 p3 p4 p5 f0 f1 f2 f3 f4 f5 hown1 hgr1 hne1 hR1 hB1 hs3 hP2 hR2 hB2 hE2 hC2 hO2 hh1 hlt1
  obtain ⟨p0, p1, p2, p3, p4, p5, f0, f1, f2, f3, f4, f5⟩ := Six.cells hP1
  clear hP1
  go_wp2_with (at_builtin; (refine wpList_append_ops rfl _ _ rfl w1.heap.size _ [] rfl HE2.out oa c.out oc rfl HC2.out (by simp <;> omega) (by simp) ?_))
  intro v2 w2 hown2 hgr2 hne2
  have hs3 : ((w1.setCell ⟨w.heap.size, 2, none⟩ (.slice (some ⟨h1, 0, none⟩) c.log.length c1)).alloc (.cells #[] 31)).heap.size = w1.heap.size + 1 := by simp
  have hP3 : Six w2 w.heap.size 29 (.int .i64 c.repl) (.int .i64 c.clock) (.slice (some ⟨h1, 0, none⟩) c.log.length c1) (.int .i64 c.acked) (.slice oa c.out.length oc) (.int .i64 c.got) := (hgr2.block _ (by omega) (fun e => by simp [Value.ownBlock] at e; omega)).trans HP2.out
  have hR3 : Six w2 (w.heap.size + 1) 29 (.int .i64 0) (.int .i64 0) (.slice none 0 0) (.int .i64 0) (.slice none 0 0) (.int .i64 0) := (hgr2.block _ (by have := Hs1.out; omega) (fun e => by have := Hs1.out; simp [Value.ownBlock] at e; omega)).trans HR2.out
  have hB3 : Below w.heap.size w w2 := HB2.out.grown hgr2 (by omega) (fun j hj => by simp [Value.ownBlock] at hj; omega)
  have hO3 : OwnAt w2 (w.heap.size + 1 + 1) 31 (.slice (some ⟨h1, 0, none⟩) c.log.length c1) c.log := ⟨HO2.out.1.kept hgr2 (.inr (fun e => by have := HH1.out.2; simp [Value.ownBlock] at e; omega)), HO2.out.2⟩
  have HOw2 : Hid (OwnAt w2 w1.heap.size 31 v2 c.out) := ⟨by simpa using hown2, fun e => by first | exact hne2 e | (have := (hne2.1 e).1; simp at this)⟩
  obtain ⟨h2, c2, rfl, hh2, hlt2, _, _, _⟩ := HOw2.out.at
  have HP3 := hide hP3
  have HR3 := hide hR3
  have HB3 := hide hB3
  have HO3 := hide hO3
  have HH2 := hide (And.intro hh2 hlt2)
  clear p0 p1 p2 p3 p4 p5 f0 f1 f2 f3 f4 f5 hown2 hgr2 hne2 hs3 hP3 hR3 hB3 hO3 hh2 hlt2
  obtain ⟨p0, p1, p2, p3, p4, p5, f0, f1, f2, f3, f4, f5⟩ := HP3.out.cells
  obtain ⟨r0, r1, r2, r3, r4, r5, g0, g1, g2, g3, g4, g5⟩ := HR3.out.cells
  go_wp2
  have hh1 := HH1.out
  have hh2 := HH2.out
  have hs1 := Hs1.out
  have hb3 := HB3.out.size
  refine bodyPost_ret (v := .agg #[.int .i64 c.repl, .int .i64 c.clock, .slice (some ⟨h1, 0, none⟩) c.log.length c1, .int .i64 c.acked, .slice (some ⟨h2, 0, none⟩) c.out.length c2, .int .i64 c.got]) (by simp [results, Tryd.results24, go_sem, r0, r1, r2, r3, r4, r5]) rfl ⟨_, _, rfl, ?_, ?_, ?_, ?_⟩
  · refine OwnAt.lower (base := w.heap.size + 1 + 1) ?_ (by omega)
    exact OwnAt.setCell (OwnAt.setCell (OwnAt.setCell (OwnAt.setCell (OwnAt.setCell (OwnAt.setCell (OwnAt.setCell HO3.out (by omega)) (by omega)) (by omega)) (by omega)) (by omega)) (by omega)) (by omega)
  · refine OwnAt.lower (base := w1.heap.size) ?_ (by omega)
    exact OwnAt.setCell (OwnAt.setCell (OwnAt.setCell (OwnAt.setCell (OwnAt.setCell (OwnAt.setCell (OwnAt.setCell HOw2.out (by omega)) (by omega)) (by omega)) (by omega)) (by omega)) (by omega)) (by omega)
  · simp [Value.ownBlock]
    omega
  · exact ((((((HB3.out.setCell (by simp) _).setCell (by simp) _).setCell (by simp) _).setCell (by simp) _).setCell (by simp) _).setCell (by simp) _).setCell (by simp) _
end Go.Proofs.YtkfjommoogmehaaDoor.OpR
namespace Go.Proofs.YtkfjommoogmehaaDoor.OpR
open Go.ChangeShapes Go.WideShapes Go.ChangeAt Go.RowKit
set_option linter.unusedVariables false

set_option maxHeartbeats 400000 in
theorem sMin_any (x y : Int) (w : World) : Calls Tryd.prog 21 #[.int .i64 x, .int .i64 y] w fun e w' => e = .returned (.int .i64 (min x y)) ∧ w = w' := by
  by_cases h : x < y
  · have hd : decide (x < y) = true := by simpa using h
    have e : min x y = x := by omega
    rw [e]
    clear h e
    go_enter Tryd.func21, Tryd.ntmps21
    go_wp2
    go_ret
    exact ⟨rfl, rfl⟩
  · have hd : decide (x < y) = false := by simpa using h
    have e : min x y = y := by omega
    rw [e]
    clear h e
    go_enter Tryd.func21, Tryd.ntmps21
    go_wp2
    go_ret
    exact ⟨rfl, rfl⟩
set_option maxHeartbeats 400000 in
theorem sMax_any (x y : Int) (w : World) : Calls Tryd.prog 25 #[.int .i64 x, .int .i64 y] w fun e w' => e = .returned (.int .i64 (max x y)) ∧ w = w' := by
  by_cases h : y < x
  · have hd : decide (y < x) = true := by simpa using h
    have e : max x y = x := by omega
    rw [e]
    clear h e
    go_enter Tryd.func25, Tryd.ntmps25
    go_wp2
    go_ret
    exact ⟨rfl, rfl⟩
  · have hd : decide (y < x) = false := by simpa using h
    have e : max x y = y := by omega
    rw [e]
    clear h e
    go_enter Tryd.func25, Tryd.ntmps25
    go_wp2
    go_ret
    exact ⟨rfl, rfl⟩
set_option maxRecDepth 100000 in
set_option maxHeartbeats 1000000 in
theorem sTake_size (c : CliV) (la oa : Option Addr) (lc oc : Nat) (fr : Int) (l : List OpV) (b off mc : Nat) (w : World) (hz : CSz maxLen c) (hf : Num64 fr) (hA : OpsAt w la c.log) (hC : OpsAt w oa c.out) (hll : l.length ≤ 1048576) (hmc : l.length ≤ mc) (hM : OpsAt w (some ⟨b, off, none⟩) l) (hSz : Sized l) (hbig : 400 < l.length) :
    Calls Tryd.prog 6 #[c.agg la lc oa oc, .int .i64 fr, .slice (some ⟨b, off, none⟩) l.length mc] w fun e w' => STold w w' e (OutV.ill 2) := by
  have hr := fun W (hW : Below w.heap.size w W) => sRight_any c la oa lc oc W hz (hA.stays hW) (hC.stays hW)
  have ho := fun W (hW : Below w.heap.size w W) => sOps_any l (some ⟨b, off, none⟩) mc W (by unfold maxLen; omega) (hM.stays hW) hSz
  have hil := sIll_any
  have hB0 := FB.start w c la lc oa oc
  have HB0 := hide hB0
  have HIL := hide hil
  obtain ⟨p0, p1, p2, p3, p4, p5⟩ := hB0.cli.cells
  have hbg : decide ((400 : Int) < (l.length : Int)) = true := by simpa using (show (400 : Int) < (l.length : Int) by omega)
  have HR := hide hr
  have HO := hide ho
  unfold CliV.agg at *
  clear hr ho hil hA hC hz hB0 hM hSz 
  go_enter Tryd.func6, Tryd.ntmps6
  go_wp2_with (first | (go_at_call 18; (refine (HIL.out _ _).mono ?_); rintro e w9 ⟨rfl, hb9⟩; have HB9 := hide (HB0.out.step hb9); clear p0 p1 p2 p3 p4 p5 hb9; obtain ⟨p0, p1, p2, p3, p4, p5⟩ := HB9.out.cli.cells; obtain ⟨r0, r1, r2, r3, r4, r5, r6, r7, r8, r9, r10, r11, r12, r13, r14, fz⟩ := fif HB9.out.res) | fail)
  refine bodyPost_ret (v := .agg #[.int .i64 0, .int .i64 0, .slice none 0 0, .int .i64 0, .slice none 0 0, .int .i64 0, .int .i64 0, .int .i64 0, .int .i64 0, .int .i64 0, .int .i64 0, .string ⟨#[]⟩, .string ⟨#[]⟩, .int .i64 0, .int .i64 2]) (by simp [results, Tryd.results6, go_sem, r0, r1, r2, r3, r4, r5, r6, r7, r8, r9, r10, r11, r12, r13, r14]) rfl (STold.ill (below15 HB9.out.cli.2 (by omega) _ _ _ _ _ _ _ _ _ _ _ _ _ _ _))
set_option maxRecDepth 100000 in
set_option maxHeartbeats 1000000 in
theorem sTake_form1 (c : CliV) (la oa : Option Addr) (lc oc : Nat) (fr : Int) (l : List OpV) (b off mc : Nat) (w : World) (hz : CSz maxLen c) (hf : Num64 fr) (hA : OpsAt w la c.log) (hC : OpsAt w oa c.out) (hll : l.length ≤ 1048576) (hmc : l.length ≤ mc) (hM : OpsAt w (some ⟨b, off, none⟩) l) (hSz : Sized l) (hl : l.length ≤ 400) (hcr : cliRight c = false) :
    Calls Tryd.prog 6 #[c.agg la lc oa oc, .int .i64 fr, .slice (some ⟨b, off, none⟩) l.length mc] w fun e w' => STold w w' e (OutV.ill 1) := by
  have hr := fun W (hW : Below w.heap.size w W) => sRight_any c la oa lc oc W hz (hA.stays hW) (hC.stays hW)
  have ho := fun W (hW : Below w.heap.size w W) => sOps_any l (some ⟨b, off, none⟩) mc W (by unfold maxLen; omega) (hM.stays hW) hSz
  have hil := sIll_any
  have hB0 := FB.start w c la lc oa oc
  have HB0 := hide hB0
  have HIL := hide hil
  obtain ⟨p0, p1, p2, p3, p4, p5⟩ := hB0.cli.cells
  have hbg : decide ((400 : Int) < (l.length : Int)) = false := by simpa using (show (l.length : Int) ≤ 400 by omega)
  rw [hcr] at hr
  have HR := hide hr
  have HO := hide ho
  unfold CliV.agg at *
  clear hr ho hil hA hC hz hB0 hM hSz hcr
  go_enter Tryd.func6, Tryd.ntmps6
  go_wp2_with (first | (go_at_call 19; (refine (HR.out _ HB0.out.cli.2).mono ?_); rintro e w1 ⟨rfl, hb1⟩; have HB1 := hide (HB0.out.step hb1); clear p0 p1 p2 p3 p4 p5 hb1; obtain ⟨p0, p1, p2, p3, p4, p5⟩ := HB1.out.cli.cells) | (go_at_call 18; (refine (HIL.out _ _).mono ?_); rintro e w9 ⟨rfl, hb9⟩; have HB9 := hide (HB1.out.step hb9); clear p0 p1 p2 p3 p4 p5 hb9; obtain ⟨p0, p1, p2, p3, p4, p5⟩ := HB9.out.cli.cells; obtain ⟨r0, r1, r2, r3, r4, r5, r6, r7, r8, r9, r10, r11, r12, r13, r14, fz⟩ := fif HB9.out.res) | fail)
  refine bodyPost_ret (v := .agg #[.int .i64 0, .int .i64 0, .slice none 0 0, .int .i64 0, .slice none 0 0, .int .i64 0, .int .i64 0, .int .i64 0, .int .i64 0, .int .i64 0, .int .i64 0, .string ⟨#[]⟩, .string ⟨#[]⟩, .int .i64 0, .int .i64 1]) (by simp [results, Tryd.results6, go_sem, r0, r1, r2, r3, r4, r5, r6, r7, r8, r9, r10, r11, r12, r13, r14]) rfl (STold.ill (below15 HB9.out.cli.2 (by omega) _ _ _ _ _ _ _ _ _ _ _ _ _ _ _))
set_option maxRecDepth 100000 in
set_option maxHeartbeats 1000000 in
theorem sTake_form2 (c : CliV) (la oa : Option Addr) (lc oc : Nat) (fr : Int) (l : List OpV) (b off mc : Nat) (w : World) (hz : CSz maxLen c) (hf : Num64 fr) (hA : OpsAt w la c.log) (hC : OpsAt w oa c.out) (hll : l.length ≤ 1048576) (hmc : l.length ≤ mc) (hM : OpsAt w (some ⟨b, off, none⟩) l) (hSz : Sized l) (hl : l.length ≤ 400) (hcr : cliRight c = true) (hor : opsRight l = false) :
    Calls Tryd.prog 6 #[c.agg la lc oa oc, .int .i64 fr, .slice (some ⟨b, off, none⟩) l.length mc] w fun e w' => STold w w' e (OutV.ill 1) := by
  have hr := fun W (hW : Below w.heap.size w W) => sRight_any c la oa lc oc W hz (hA.stays hW) (hC.stays hW)
  have ho := fun W (hW : Below w.heap.size w W) => sOps_any l (some ⟨b, off, none⟩) mc W (by unfold maxLen; omega) (hM.stays hW) hSz
  have hil := sIll_any
  have hB0 := FB.start w c la lc oa oc
  have HB0 := hide hB0
  have HIL := hide hil
  obtain ⟨p0, p1, p2, p3, p4, p5⟩ := hB0.cli.cells
  have hbg : decide ((400 : Int) < (l.length : Int)) = false := by simpa using (show (l.length : Int) ≤ 400 by omega)
  rw [hcr] at hr
  rw [hor] at ho
  have HR := hide hr
  have HO := hide ho
  unfold CliV.agg at *
  clear hr ho hil hA hC hz hB0 hM hSz hcr hor
  go_enter Tryd.func6, Tryd.ntmps6
  go_wp2_with (first | (go_at_call 19; (refine (HR.out _ HB0.out.cli.2).mono ?_); rintro e w1 ⟨rfl, hb1⟩; have HB1 := hide (HB0.out.step hb1); clear p0 p1 p2 p3 p4 p5 hb1; obtain ⟨p0, p1, p2, p3, p4, p5⟩ := HB1.out.cli.cells) | (go_at_call 20; (refine (HO.out _ HB1.out.cli.2).mono ?_); rintro e w2 ⟨rfl, hb2⟩; have HB2 := hide (HB1.out.step hb2); clear p0 p1 p2 p3 p4 p5 hb2; obtain ⟨p0, p1, p2, p3, p4, p5⟩ := HB2.out.cli.cells) | (go_at_call 18; (refine (HIL.out _ _).mono ?_); rintro e w9 ⟨rfl, hb9⟩; have HB9 := hide (HB2.out.step hb9); clear p0 p1 p2 p3 p4 p5 hb9; obtain ⟨p0, p1, p2, p3, p4, p5⟩ := HB9.out.cli.cells; obtain ⟨r0, r1, r2, r3, r4, r5, r6, r7, r8, r9, r10, r11, r12, r13, r14, fz⟩ := fif HB9.out.res) | fail)
  refine bodyPost_ret (v := .agg #[.int .i64 0, .int .i64 0, .slice none 0 0, .int .i64 0, .slice none 0 0, .int .i64 0, .int .i64 0, .int .i64 0, .int .i64 0, .int .i64 0, .int .i64 0, .string ⟨#[]⟩, .string ⟨#[]⟩, .int .i64 0, .int .i64 1]) (by simp [results, Tryd.results6, go_sem, r0, r1, r2, r3, r4, r5, r6, r7, r8, r9, r10, r11, r12, r13, r14]) rfl (STold.ill (below15 HB9.out.cli.2 (by omega) _ _ _ _ _ _ _ _ _ _ _ _ _ _ _))
set_option maxRecDepth 100000 in
set_option maxHeartbeats 1000000 in
theorem sTake_form3 (c : CliV) (la oa : Option Addr) (lc oc : Nat) (fr : Int) (l : List OpV) (b off mc : Nat) (w : World) (hz : CSz maxLen c) (hf : Num64 fr) (hA : OpsAt w la c.log) (hC : OpsAt w oa c.out) (hll : l.length ≤ 1048576) (hmc : l.length ≤ mc) (hM : OpsAt w (some ⟨b, off, none⟩) l) (hSz : Sized l) (hl : l.length ≤ 400) (hcr : cliRight c = true) (hor : opsRight l = true) (h0 : fr < 0) :
    Calls Tryd.prog 6 #[c.agg la lc oa oc, .int .i64 fr, .slice (some ⟨b, off, none⟩) l.length mc] w fun e w' => STold w w' e (OutV.ill 1) := by
  have hr := fun W (hW : Below w.heap.size w W) => sRight_any c la oa lc oc W hz (hA.stays hW) (hC.stays hW)
  have ho := fun W (hW : Below w.heap.size w W) => sOps_any l (some ⟨b, off, none⟩) mc W (by unfold maxLen; omega) (hM.stays hW) hSz
  have hil := sIll_any
  have hB0 := FB.start w c la lc oa oc
  have HB0 := hide hB0
  have HIL := hide hil
  obtain ⟨p0, p1, p2, p3, p4, p5⟩ := hB0.cli.cells
  have hbg : decide ((400 : Int) < (l.length : Int)) = false := by simpa using (show (l.length : Int) ≤ 400 by omega)
  rw [hcr] at hr
  rw [hor] at ho
  have b0 : decide (fr < 0) = true := by simpa using h0
  have HR := hide hr
  have HO := hide ho
  unfold CliV.agg at *
  clear hr ho hil hA hC hz hB0 hM hSz hcr hor h0
  go_enter Tryd.func6, Tryd.ntmps6
  go_wp2_with (first | (go_at_call 19; (refine (HR.out _ HB0.out.cli.2).mono ?_); rintro e w1 ⟨rfl, hb1⟩; have HB1 := hide (HB0.out.step hb1); clear p0 p1 p2 p3 p4 p5 hb1; obtain ⟨p0, p1, p2, p3, p4, p5⟩ := HB1.out.cli.cells) | (go_at_call 20; (refine (HO.out _ HB1.out.cli.2).mono ?_); rintro e w2 ⟨rfl, hb2⟩; have HB2 := hide (HB1.out.step hb2); clear p0 p1 p2 p3 p4 p5 hb2; obtain ⟨p0, p1, p2, p3, p4, p5⟩ := HB2.out.cli.cells) | (go_at_call 18; (refine (HIL.out _ _).mono ?_); rintro e w9 ⟨rfl, hb9⟩; have HB9 := hide (HB2.out.step hb9); clear p0 p1 p2 p3 p4 p5 hb9; obtain ⟨p0, p1, p2, p3, p4, p5⟩ := HB9.out.cli.cells; obtain ⟨r0, r1, r2, r3, r4, r5, r6, r7, r8, r9, r10, r11, r12, r13, r14, fz⟩ := fif HB9.out.res) | fail)
  refine bodyPost_ret (v := .agg #[.int .i64 0, .int .i64 0, .slice none 0 0, .int .i64 0, .slice none 0 0, .int .i64 0, .int .i64 0, .int .i64 0, .int .i64 0, .int .i64 0, .int .i64 0, .string ⟨#[]⟩, .string ⟨#[]⟩, .int .i64 0, .int .i64 1]) (by simp [results, Tryd.results6, go_sem, r0, r1, r2, r3, r4, r5, r6, r7, r8, r9, r10, r11, r12, r13, r14]) rfl (STold.ill (below15 HB9.out.cli.2 (by omega) _ _ _ _ _ _ _ _ _ _ _ _ _ _ _))
set_option maxRecDepth 100000 in
set_option maxHeartbeats 1000000 in
theorem sTake_place1 (c : CliV) (la oa : Option Addr) (lc oc : Nat) (fr : Int) (l : List OpV) (b off mc : Nat) (w : World) (hz : CSz maxLen c) (hf : Num64 fr) (hA : OpsAt w la c.log) (hC : OpsAt w oa c.out) (hll : l.length ≤ 1048576) (hmc : l.length ≤ mc) (hM : OpsAt w (some ⟨b, off, none⟩) l) (hSz : Sized l) (hl : l.length ≤ 400) (hcr : cliRight c = true) (hor : opsRight l = true) (h0 : 0 ≤ fr) (h1 : c.got < fr) :
    Calls Tryd.prog 6 #[c.agg la lc oa oc, .int .i64 fr, .slice (some ⟨b, off, none⟩) l.length mc] w fun e w' => STold w w' e (OutV.ill 8) := by
  have hr := fun W (hW : Below w.heap.size w W) => sRight_any c la oa lc oc W hz (hA.stays hW) (hC.stays hW)
  have ho := fun W (hW : Below w.heap.size w W) => sOps_any l (some ⟨b, off, none⟩) mc W (by unfold maxLen; omega) (hM.stays hW) hSz
  have hil := sIll_any
  have hB0 := FB.start w c la lc oa oc
  have HB0 := hide hB0
  have HIL := hide hil
  obtain ⟨p0, p1, p2, p3, p4, p5⟩ := hB0.cli.cells
  have hbg : decide ((400 : Int) < (l.length : Int)) = false := by simpa using (show (l.length : Int) ≤ 400 by omega)
  rw [hcr] at hr
  rw [hor] at ho
  have b0 : decide (fr < 0) = false := by simpa using h0
  have b1 : decide (c.got < fr) = true := by simpa using h1
  have HR := hide hr
  have HO := hide ho
  unfold CliV.agg at *
  clear hr ho hil hA hC hz hB0 hM hSz hcr hor h0 h1
  go_enter Tryd.func6, Tryd.ntmps6
  go_wp2_with (first | (go_at_call 19; (refine (HR.out _ HB0.out.cli.2).mono ?_); rintro e w1 ⟨rfl, hb1⟩; have HB1 := hide (HB0.out.step hb1); clear p0 p1 p2 p3 p4 p5 hb1; obtain ⟨p0, p1, p2, p3, p4, p5⟩ := HB1.out.cli.cells) | (go_at_call 20; (refine (HO.out _ HB1.out.cli.2).mono ?_); rintro e w2 ⟨rfl, hb2⟩; have HB2 := hide (HB1.out.step hb2); clear p0 p1 p2 p3 p4 p5 hb2; obtain ⟨p0, p1, p2, p3, p4, p5⟩ := HB2.out.cli.cells) | (go_at_call 18; (refine (HIL.out _ _).mono ?_); rintro e w9 ⟨rfl, hb9⟩; have HB9 := hide (HB2.out.step hb9); clear p0 p1 p2 p3 p4 p5 hb9; obtain ⟨p0, p1, p2, p3, p4, p5⟩ := HB9.out.cli.cells; obtain ⟨r0, r1, r2, r3, r4, r5, r6, r7, r8, r9, r10, r11, r12, r13, r14, fz⟩ := fif HB9.out.res) | fail)
  refine bodyPost_ret (v := .agg #[.int .i64 0, .int .i64 0, .slice none 0 0, .int .i64 0, .slice none 0 0, .int .i64 0, .int .i64 0, .int .i64 0, .int .i64 0, .int .i64 0, .int .i64 0, .string ⟨#[]⟩, .string ⟨#[]⟩, .int .i64 0, .int .i64 8]) (by simp [results, Tryd.results6, go_sem, r0, r1, r2, r3, r4, r5, r6, r7, r8, r9, r10, r11, r12, r13, r14]) rfl (STold.ill (below15 HB9.out.cli.2 (by omega) _ _ _ _ _ _ _ _ _ _ _ _ _ _ _))
set_option maxRecDepth 100000 in
set_option maxHeartbeats 1000000 in
theorem sTake_place2 (c : CliV) (la oa : Option Addr) (lc oc : Nat) (fr : Int) (l : List OpV) (b off mc : Nat) (w : World) (hz : CSz maxLen c) (hf : Num64 fr) (hA : OpsAt w la c.log) (hC : OpsAt w oa c.out) (hll : l.length ≤ 1048576) (hmc : l.length ≤ mc) (hM : OpsAt w (some ⟨b, off, none⟩) l) (hSz : Sized l) (hl : l.length ≤ 400) (hcr : cliRight c = true) (hor : opsRight l = true) (h0 : 0 ≤ fr) (h1 : fr ≤ c.got) (h2 : 1000000 < fr + (l.length : Int)) :
    Calls Tryd.prog 6 #[c.agg la lc oa oc, .int .i64 fr, .slice (some ⟨b, off, none⟩) l.length mc] w fun e w' => STold w w' e (OutV.ill 8) := by
  have hr := fun W (hW : Below w.heap.size w W) => sRight_any c la oa lc oc W hz (hA.stays hW) (hC.stays hW)
  have ho := fun W (hW : Below w.heap.size w W) => sOps_any l (some ⟨b, off, none⟩) mc W (by unfold maxLen; omega) (hM.stays hW) hSz
  have hil := sIll_any
  have hB0 := FB.start w c la lc oa oc
  have HB0 := hide hB0
  have HIL := hide hil
  obtain ⟨p0, p1, p2, p3, p4, p5⟩ := hB0.cli.cells
  have hbg : decide ((400 : Int) < (l.length : Int)) = false := by simpa using (show (l.length : Int) ≤ 400 by omega)
  rw [hcr] at hr
  rw [hor] at ho
  have b0 : decide (fr < 0) = false := by simpa using h0
  have b1 : decide (c.got < fr) = false := by simpa using h1
  have hwr : wrap64 (1000000 - (l.length : Int)) = 1000000 - (l.length : Int) := by unfold wrap64; omega
  have b2 : decide (1000000 - (l.length : Int) < fr) = true := by simpa using (show 1000000 - (l.length : Int) < fr by omega)
  have HR := hide hr
  have HO := hide ho
  unfold CliV.agg at *
  clear hr ho hil hA hC hz hB0 hM hSz hcr hor h0 h1 h2
  go_enter Tryd.func6, Tryd.ntmps6
  go_wp2_with (first | (go_at_call 19; (refine (HR.out _ HB0.out.cli.2).mono ?_); rintro e w1 ⟨rfl, hb1⟩; have HB1 := hide (HB0.out.step hb1); clear p0 p1 p2 p3 p4 p5 hb1; obtain ⟨p0, p1, p2, p3, p4, p5⟩ := HB1.out.cli.cells) | (go_at_call 20; (refine (HO.out _ HB1.out.cli.2).mono ?_); rintro e w2 ⟨rfl, hb2⟩; have HB2 := hide (HB1.out.step hb2); clear p0 p1 p2 p3 p4 p5 hb2; obtain ⟨p0, p1, p2, p3, p4, p5⟩ := HB2.out.cli.cells) | (go_at_call 18; (refine (HIL.out _ _).mono ?_); rintro e w9 ⟨rfl, hb9⟩; have HB9 := hide (HB2.out.step hb9); clear p0 p1 p2 p3 p4 p5 hb9; obtain ⟨p0, p1, p2, p3, p4, p5⟩ := HB9.out.cli.cells; obtain ⟨r0, r1, r2, r3, r4, r5, r6, r7, r8, r9, r10, r11, r12, r13, r14, fz⟩ := fif HB9.out.res) | fail)
  refine bodyPost_ret (v := .agg #[.int .i64 0, .int .i64 0, .slice none 0 0, .int .i64 0, .slice none 0 0, .int .i64 0, .int .i64 0, .int .i64 0, .int .i64 0, .int .i64 0, .int .i64 0, .string ⟨#[]⟩, .string ⟨#[]⟩, .int .i64 0, .int .i64 8]) (by simp [results, Tryd.results6, go_sem, r0, r1, r2, r3, r4, r5, r6, r7, r8, r9, r10, r11, r12, r13, r14]) rfl (STold.ill (below15 HB9.out.cli.2 (by omega) _ _ _ _ _ _ _ _ _ _ _ _ _ _ _))
end Go.Proofs.YtkfjommoogmehaaDoor.OpR
namespace Go.Proofs.YtkfjommoogmehaaDoor.OpR
open Go.ChangeShapes Go.WideShapes Go.ChangeAt Go.RowKit
set_option linter.unusedVariables false

/-- What stands in memory while the answer is made. -/
structure TSt (w W : World) (X G : Nat) (c : CliV) (la : Option Addr) (lc : Nat) (oa : Option Addr) (oc : Nat) (r : List OpV × Int × Int) (xa : Option Addr) (xc h2 c2 : Nat) (t got : Int) : Prop where
  fb : FB w W c la lc oa oc
  x : W.heap[X]? = some (.cells #[.slice xa r.1.length xc, .int .i64 r.2.1, .int .i64 r.2.2] 52 (0, 0))
  g : Six W G 29 (.int .i64 c.repl) (.int .i64 t) (.slice xa r.1.length xc) (.int .i64 c.acked) (.slice (some ⟨h2, 0, none⟩) c.out.length c2) (.int .i64 got)
  log : OpsAt W xa r.1
  out : OpsAt W (some ⟨h2, 0, none⟩) c.out
  wx : w.heap.size + 1 < X
  xg : X < G
  ga : ∀ a, xa = some a → a.block < G
  gh : h2 < G
section
variable {w W W' : World} {X G : Nat} {c : CliV} {la : Option Addr} {lc : Nat} {oa : Option Addr} {oc : Nat} {r : List OpV × Int × Int} {xa : Option Addr} {xc h2 c2 : Nat} {t got : Int}
theorem TSt.step (h : TSt w W X G c la lc oa oc r xa xc h2 c2 t got) (hb : Below W.heap.size W W') : TSt w W' X G c la lc oa oc r xa xc h2 c2 t got :=
  ⟨h.fb.step hb, (hb.block _ (Array.getElem?_eq_some_iff.1 h.x).1).trans h.x, h.g.step hb, h.log.stays hb, h.out.stays hb, h.wx, h.xg, h.ga, h.gh⟩
theorem FB.set {g i : Nat} {v : Value} (h : FB w W c la lc oa oc) (hg : w.heap.size + 1 < g) : FB w (W.setCell ⟨g, i, none⟩ v) c la lc oa oc :=
  ⟨h.cli.set (by omega) (by omega), (Below.heap_setCell _ _ _ _ (by show w.heap.size + 1 ≠ g; omega)).trans h.res⟩
theorem OpsAt.setAway_ {w : World} {ao : Option Addr} {l : List OpV} {g i : Nat} {v : Value} (h : OpsAt w ao l) (hne : ∀ a, ao = some a → a.block ≠ g) : OpsAt (w.setCell ⟨g, i, none⟩ v) ao l := fun j hj => by
  obtain ⟨b, off, e, hlt, ho⟩ := h j hj
  exact ⟨b, off, e, by simpa using hlt, ho.block (Below.heap_setCell _ _ _ _ (by exact hne _ e))⟩
theorem TSt.tick (h : TSt w W X G c la lc oa oc r xa xc h2 c2 t got) (u : Int) : TSt w (W.setCell ⟨G, 1, none⟩ (.int .i64 u)) X G c la lc oa oc r xa xc h2 c2 u got :=
  ⟨h.fb.set (by have := h.wx; have := h.xg; omega), (Below.heap_setCell _ _ _ _ (by have := h.xg; show X ≠ G; omega)).trans h.x, set_block h.g 1 (.int .i64 u), h.log.setAway_ (fun a e => by have := h.ga a e; omega), h.out.setAway_ (fun a e => by cases e; have := h.gh; show h2 ≠ G; omega), h.wx, h.xg, h.ga, h.gh⟩
end
theorem OpsOf.at_lt {w : World} {base : Nat} {T : TypeId} {v : Value} {l : List OpV} (h : OpsOf w base T v l) : ∃ ao c, v = .slice ao l.length c ∧ OpsAt w ao l ∧ ∀ a, ao = some a → a.block < w.heap.size ∧ base ≤ a.block := by
  rcases h with h | ⟨rfl, rfl⟩
  · obtain ⟨g, cap, rfl, hbg, hlt, _, _, hat⟩ := h.at
    exact ⟨_, cap, rfl, hat, fun a e => by cases e; exact ⟨hlt, hbg⟩⟩
  · exact ⟨none, 0, rfl, fun j hj => absurd hj (by simp), fun a e => by cases e⟩
theorem cells3t {w : World} {g : Nat} {v0 v1 v2 : Value} {T : TypeId} (h : w.heap[g]? = some (.cells #[v0, v1, v2] T (0, 0))) : w.cell? ⟨g, 0, none⟩ = some v0 ∧ w.cell? ⟨g, 1, none⟩ = some v1 ∧ w.cell? ⟨g, 2, none⟩ = some v2 := by
  refine ⟨?_, ?_, ?_⟩ <;> simp [World.cell?, h]
set_option maxRecDepth 100000 in
set_option maxHeartbeats 4000000 in
theorem sTake_rest (c : CliV) (la oa : Option Addr) (lc oc : Nat) (fr : Int) (l : List OpV) (b off mc : Nat) (w : World) (hz : CSz maxLen c) (hf : Num64 fr) (hA : OpsAt w la c.log) (hC : OpsAt w oa c.out) (hll : l.length ≤ 1048576) (hmc : l.length ≤ mc) (hM : OpsAt w (some ⟨b, off, none⟩) l) (hSz : Sized l) (hl : l.length ≤ 400) (hcr : cliRight c = true) (hor : opsRight l = true) (h0 : 0 ≤ fr) (h1 : fr ≤ c.got) (h2 : fr + (l.length : Int) ≤ 1000000) (k : Nat) (hk : min (l.length : Int) (c.got - fr) = (k : Int)) (m : List OpV) (hm : m = l.drop k) (r : List OpV × Int × Int) (hrr : r = addRes c.log m) (hrl : r.1.length ≤ 150) (x : OutV) (hx1 : knownB c.log c.repl m = false → x = OutV.ill 6) (hx2 : knownB c.log c.repl m = true → r.2.2 ≠ 0 → x = OutV.ill r.2.2) (hx3 : knownB c.log c.repl m = true → r.2.2 = 0 → x = ⟨⟨c.repl, maxT c.clock m, r.1, c.acked, c.out, max c.got (fr + (l.length : Int))⟩, OpV.zero, r.2.1, 0⟩) :
    Calls Tryd.prog 6 #[c.agg la lc oa oc, .int .i64 fr, .slice (some ⟨b, off, none⟩) l.length mc] w fun e w' => STold w w' e x := by
  have hr := fun W (hW : Below w.heap.size w W) => sRight_any c la oa lc oc W hz (hA.stays hW) (hC.stays hW)
  have ho := fun W (hW : Below w.heap.size w W) => sOps_any l (some ⟨b, off, none⟩) mc W (by unfold maxLen; omega) (hM.stays hW) hSz
  have hil := sIll_any
  have hB0 := FB.start w c la lc oa oc
  have HB0 := hide hB0
  have HIL := hide hil
  obtain ⟨p0, p1, p2, p3, p4, p5⟩ := hB0.cli.cells
  have hbg : decide ((400 : Int) < (l.length : Int)) = false := by simpa using (show (l.length : Int) ≤ 400 by omega)
  rw [hcr] at hr
  rw [hor] at ho
  have b0 : decide (fr < 0) = false := by simpa using h0
  have b1 : decide (c.got < fr) = false := by simpa using h1
  have hwr : wrap64 (1000000 - (l.length : Int)) = 1000000 - (l.length : Int) := by unfold wrap64; omega
  have b2 : decide (1000000 - (l.length : Int) < fr) = false := by simpa using (show fr ≤ 1000000 - (l.length : Int) by omega)
  have hR := (cliR_iff c).1 hcr
  have hg := hR.got
  have h150 := hR.log.2.1
  have hfew := hR.few
  have hwg : wrap64 (c.got - fr) = c.got - fr := by unfold wrap64; omega
  have hws : wrap64 (fr + (l.length : Int)) = fr + (l.length : Int) := by unfold wrap64; omega
  have hkl : k ≤ l.length := by omega
  have hml : m.length = l.length - k := by rw [hm, List.length_drop]
  have hsl := fun W => slice_from W b off l.length mc k (min (l.length : Int) (c.got - fr)) hk hkl
  rw [← hml] at hsl
  have hmat : OpsAt w (some ⟨b, fromOff off mc k, none⟩) m := by rw [hm]; exact hM.from k hmc
  have hm400 : m.length ≤ 400 := by omega
  have hin := fun (j : Nat) (hj : j < m.length) W (hW : Below w.heap.size w W) => sIn_any c.log m[j] la lc W h150 (hA.stays hW)
  have hm150 : m.length ≤ 150 := by have := (opsR_of hor).1; omega
  have had := fun W (hW : Below w.heap.size w W) => sAdd_any c.log m la (some ⟨b, fromOff off mc k, none⟩) lc (mc - k) W h150 hm150 (hA.stays hW) (hmat.stays hW)
  rw [← hrr] at had
  have hcp := fun W (hW : Below w.heap.size w W) => sCopy_any c la oa lc oc W h150 (by omega) (hA.stays hW) (hC.stays hW)
  have hgot : 0 ≤ c.got := hg.1
  have HR := hide hr
  have HO := hide ho
  have HMat := hide hmat
  have HIN := hide hin
  have HAD := hide had
  have HCP := hide hcp
  have HX1 := hide hx1
  have HX2 := hide hx2
  have HX3 := hide hx3
  obtain ⟨n, hn⟩ : ∃ n : Int, n = (l.length : Int) := ⟨_, rfl⟩
  unfold CliV.agg at *
  unfold OpV.agg at HIN
  clear hr ho hil hA hC hz hB0 hM hSz hcr hor h0 h1 h2 hk hm hmat hin had hcp hx1 hx2 hx3 hR hg hrr hkl hml hn
  go_enter Tryd.func6, Tryd.ntmps6
  go_wp2_with (first | (go_at_call 19; (refine (HR.out _ HB0.out.cli.2).mono ?_); rintro e w1 ⟨rfl, hb1⟩; have HB1 := hide (HB0.out.step hb1); clear p0 p1 p2 p3 p4 p5 hb1; obtain ⟨p0, p1, p2, p3, p4, p5⟩ := HB1.out.cli.cells) | (go_at_call 20; (refine (HO.out _ HB1.out.cli.2).mono ?_); rintro e w2 ⟨rfl, hb2⟩; have HB2 := hide (HB1.out.step hb2); clear p0 p1 p2 p3 p4 p5 hb2; obtain ⟨p0, p1, p2, p3, p4, p5⟩ := HB2.out.cli.cells) | (go_at_call 21; refine (sMin_any _ _ _).mono ?_; rintro e w3 ⟨rfl, rfl⟩) | fail)
  clear p0 p1 p2 p3 p4 p5
  go_loopw [8] (fun i wr => ∃ j : Nat, j ≤ m.length ∧ i = .int .i64 j ∧ (∀ q (hq : q < m.length), q < j → (!decide (m[q].repl = c.repl) || c.log.any (fun y => sameOp y m[q])) = true) ∧ FB w wr c la lc oa oc) (fun i _ => m.length - (intOf i).toNat)
  case atStart => exact ⟨0, by omega, rfl, fun q hq h => by omega, HB2.out⟩
  case round =>
    obtain ⟨j, hj, rfl, hal, hB⟩ := hrel
    have HL := hide hal
    have HB := hide hB
    obtain ⟨p0, p1, p2, p3, p4, p5⟩ := hB.cli.cells
    clear hal hB
    by_cases h : j < m.length
    · obtain ⟨b3, o3, eb, hlt3, ho3⟩ := HMat.out j h
      cases eb
      obtain ⟨c0, c1, c2, c3, c4, c5, c6⟩ := ho3.block (w' := wr) (HB.out.cli.2.block _ hlt3)
      have hi0 : (0 : Int) ≤ (j : Int) := by omega
      have hi1 : (j : Int) < (m.length : Int) := by omega
      by_cases hr : m[j].repl = c.repl
      · have hr' : (m[j].repl == c.repl) = true := by simp [hr]
        have HRr := hide hr
        have C0 : ∀ q : (ClsW fun W => FB w W c la lc oa oc), OpAt q.wd b (fromOff off mc k + j * 7) m[j] := fun q => ho3.block (q.ok.cli.2.block _ hlt3)
        unfold OpAt at C0
        have d0 := fun q => (C0 q).1
        have d1 := fun q => (C0 q).2.1
        have d2 := fun q => (C0 q).2.2.1
        have d3 := fun q => (C0 q).2.2.2.1
        have d4 := fun q => (C0 q).2.2.2.2.1
        have d5 := fun q => (C0 q).2.2.2.2.2.1
        have d6 := fun q => (C0 q).2.2.2.2.2.2
        have P0 : ∀ q : (ClsW fun W => FB w W c la lc oa oc), q.wd.cell? ⟨w.heap.size, 0, none⟩ = some (.int .i64 c.repl) := fun q => q.ok.cli.cells.1
        have P2 : ∀ q : (ClsW fun W => FB w W c la lc oa oc), q.wd.cell? ⟨w.heap.size, 2, none⟩ = some (.slice la c.log.length lc) := fun q => q.ok.cli.cells.2.2.1
        have hinj := HIN.out j h
        haveI : Nonempty (ClsW fun W => FB w W c la lc oa oc) := ⟨⟨_, HB.out⟩⟩
        have HD0 := hide (HB.out.step (Below.refl _ wr).drew)
        cases hs : c.log.any (fun y => sameOp y m[j])
        · rw [hs] at hinj
          have HS := hide hs
          have HJ := hide hinj
          clear ho3 hr hs hinj C0 c0 c1 c2 c3 c4 c5 c6 p0 p1 p2 p3 p4 p5 hlt3
          go_wp2_with fail
          refine region_class (ι := (ClsW fun W => FB w W c la lc oa oc)) ClsW.wd (by kernel_rfl) (by kernel_rfl) ⟨_, HD0.out⟩ rfl ?_
          repeat (go_big_quiet_step (first | (go_at_call 22; rename_i q; refine (HJ.out _ q.ok.cli.2).mono ?_; rintro e w4 ⟨rfl, hw4⟩; exact ⟨rfl, ⟨w4, q.ok.step hw4⟩, rfl⟩)))
          refine wpQuiet_nil ?_
          rintro _ ⟨⟨w5, hV5⟩, rfl⟩
          have HV5 := hide hV5
          clear hV5 d0 d1 d2 d3 d4 d5 d6 P0 P2
          go_wp2_with (first | (go_at_call 18; (refine (HIL.out _ _).mono ?_); rintro e w9 ⟨rfl, hb9⟩; have HB9 := hide (FB.step HV5.out hb9); clear hb9; obtain ⟨p0, p1, p2, p3, p4, p5⟩ := HB9.out.cli.cells; obtain ⟨r0, r1, r2, r3, r4, r5, r6, r7, r8, r9, r10, r11, r12, r13, r14, fz⟩ := fif HB9.out.res) | fail)
          refine bodyPost_ret (v := .agg #[.int .i64 0, .int .i64 0, .slice none 0 0, .int .i64 0, .slice none 0 0, .int .i64 0, .int .i64 0, .int .i64 0, .int .i64 0, .int .i64 0, .int .i64 0, .string ⟨#[]⟩, .string ⟨#[]⟩, .int .i64 0, .int .i64 6]) (by simp [results, Tryd.results6, go_sem, r0, r1, r2, r3, r4, r5, r6, r7, r8, r9, r10, r11, r12, r13, r14]) rfl (by rw [HX1.out (known_at h HRr.out HS.out)]; exact STold.ill (below15 HB9.out.cli.2 (by omega) _ _ _ _ _ _ _ _ _ _ _ _ _ _ _))
        · rw [hs] at hinj
          have HS := hide hs
          have HJ := hide hinj
          clear ho3 hr hs hinj C0 c0 c1 c2 c3 c4 c5 c6 p0 p1 p2 p3 p4 p5 hlt3
          go_wp2_with fail
          refine region_class (ι := (ClsW fun W => FB w W c la lc oa oc)) ClsW.wd (by kernel_rfl) (by kernel_rfl) ⟨_, HD0.out⟩ rfl ?_
          repeat (go_big_quiet_step (first | (go_at_call 22; rename_i q; refine (HJ.out _ q.ok.cli.2).mono ?_; rintro e w4 ⟨rfl, hw4⟩; exact ⟨rfl, ⟨w4, q.ok.step hw4⟩, rfl⟩)))
          refine wpQuiet_nil ?_
          rintro _ ⟨⟨w5, hV5⟩, rfl⟩
          have HV5 := hide hV5
          clear hV5 d0 d1 d2 d3 d4 d5 d6 P0 P2
          go_wp2
          go_roundw
          case rel =>
            refine ⟨j + 1, by omega, by go_num, fun q hq hjq => ?_, HV5.out⟩
            rcases Nat.lt_or_ge q j with h' | h'
            · exact HL.out q hq h'
            · obtain rfl : q = j := by omega
              rw [HS.out, Bool.or_true]
          case measure => simp [intOf]; omega
      · have hr' : (m[j].repl == c.repl) = false := by simp [hr]
        have hr2 : decide (m[j].repl = c.repl) = false := by simp [hr]
        have HR2 := hide hr2
        clear hr2 hr ho3 hlt3
        go_wp2_with fail
        go_quiet (fail)
        go_wp2
        go_roundw
        case rel =>
          refine ⟨j + 1, by omega, by go_num, fun q hq hjq => ?_, HB.out.step (drewN_below wr nq)⟩
          rcases Nat.lt_or_ge q j with h' | h'
          · exact HL.out q hq h'
          · obtain rfl : q = j := by omega
            rw [HR2.out]; rfl
        case measure => simp [intOf]; omega
    · have hkn : knownB c.log c.repl m = true := known_upto fun q hq => HL.out q hq (by omega)
      have HKN := hide hkn
      clear hkn
      by_cases hc : r.2.2 = 0
      · have hc' : (r.2.2 == 0) = true := by simpa using hc
        have HC0 := hide hc
        clear hc
        go_wp2_with (first | (go_at_call 23; (refine (HAD.out _ HB.out.cli.2).mono ?_); rintro e w6 ⟨v6, rfl, hoA, hbA⟩; obtain ⟨xa, xc, rfl, hatA, hxlt⟩ := hoA.at_lt; have HXL := hide hxlt; have HA6 := hide hatA; have HB6 := hide (HB.out.step hbA); clear p0 p1 p2 p3 p4 p5 hbA hoA hatA hxlt; obtain ⟨p0, p1, p2, p3, p4, p5⟩ := (HB6.out.step ((Below.refl _ w6).alloc (Nat.le_refl _) (.cells #[.slice xa r.1.length xc, .int .i64 r.2.1, .int .i64 r.2.2] 52))).cli.cells) | (go_at_call 24; (refine (HCP.out _ (HB6.out.step ((Below.refl _ w6).alloc (Nat.le_refl _) (.cells #[.slice xa r.1.length xc, .int .i64 r.2.1, .int .i64 r.2.2] 52))).cli.2).mono ?_); rintro e w7 ⟨v1, v2, rfl, ho1, ho2, hne, hb7⟩; obtain ⟨h1, c1, rfl, _, _, _, _, _⟩ := ho1.at; obtain ⟨h2, c2, rfl, hbg2, hlt2, _, _, hat2⟩ := ho2.at; have HG2 := hide hbg2; have hx7 : w7.heap[w6.heap.size]? = some (.cells #[.slice xa r.1.length xc, .int .i64 r.2.1, .int .i64 r.2.2] 52 (0, 0)) := (hb7.block _ (by simp)).trans (heap_alloc_new w6 _); have hF7 := (HB6.out.step ((Below.refl _ w6).alloc (Nat.le_refl _) (.cells #[.slice xa r.1.length xc, .int .i64 r.2.1, .int .i64 r.2.2] 52))).step hb7; have ha7 : OpsAt w7 xa r.1 := (HA6.out.stays ((Below.refl _ w6).alloc (Nat.le_refl _) (.cells #[.slice xa r.1.length xc, .int .i64 r.2.1, .int .i64 r.2.2] 52))).stays hb7; have hS7 : w6.heap.size < w7.heap.size := (by have := hb7.size; simp at this; omega); have hwx := HB6.out.lt; have hz3 : w.heap.size < w7.heap.size := (by omega); have HF7 := hide hF7; have HX7 := hide hx7; have HA7 := hide ha7; have HO7 := hide hat2; have HL7 := hide hlt2; have hbx := fun o => (Below.refl w7.heap.size w7).alloc (Nat.le_refl _) o; have ax := fun o => cells3t (((hbx o).block _ hS7).trans hx7); have ap := fun o => ((hF7.step (hbx o))).cli.cells; have x0 := fun o => (ax o).1; have x1 := fun o => (ax o).2.1; have x2 := fun o => (ax o).2.2; clear hbg2 p0 p1 p2 p3 p4 p5 hb7 ho1 ho2 hne hat2 hlt2 hx7 hF7 ha7 hbx ax; have p0 := fun o => (ap o).1; have p1 := fun o => (ap o).2.1; have p2 := fun o => (ap o).2.2.1; have p3 := fun o => (ap o).2.2.2.1; have p4 := fun o => (ap o).2.2.2.2.1; have p5 := fun o => (ap o).2.2.2.2.2; clear ap) | (go_at_call 25; refine (sMax_any _ _ _).mono ?_; rintro e w8 ⟨rfl, rfl⟩) | fail)
        have hbn := (Below.refl w7.heap.size w7).alloc (Nat.le_refl _) (.cells #[.int .i64 c.repl, .int .i64 c.clock, .slice xa r.1.length xc, .int .i64 c.acked, .slice (some ⟨h2, 0, none⟩) c.out.length c2, .int .i64 (max c.got (fr + (l.length : Int)))] 29)
        have hT : TSt w (w7.alloc (.cells #[.int .i64 c.repl, .int .i64 c.clock, .slice xa r.1.length xc, .int .i64 c.acked, .slice (some ⟨h2, 0, none⟩) c.out.length c2, .int .i64 (max c.got (fr + (l.length : Int)))] 29)) w6.heap.size w7.heap.size c la lc oa oc r xa xc h2 c2 c.clock (max c.got (fr + (l.length : Int))) :=
          ⟨HF7.out.step hbn, (hbn.block _ hS7).trans HX7.out, six_new w7 _ _ _ _ _ _ _, HA7.out.stays hbn, HO7.out.stays hbn, hwx, hS7, fun a e => by have := (HXL.out a e).1; omega, HL7.out⟩
        obtain ⟨Y, hY⟩ : ∃ Y, (w7.alloc (.cells #[.int .i64 c.repl, .int .i64 c.clock, .slice xa r.1.length xc, .int .i64 c.acked, .slice (some ⟨h2, 0, none⟩) c.out.length c2, .int .i64 (max c.got (fr + (l.length : Int)))] 29)) = Y := ⟨_, rfl⟩
        rw [hY] at hT ⊢
        clear hbn
        have HT := hide hT
        clear hY hT p0 p1 p2 p3 p4 p5 x0 x1 x2
        go_loopw [11] (fun i wr => ∃ q : Nat, q ≤ m.length ∧ i = .int .i64 q ∧ TSt w wr w6.heap.size w7.heap.size c la lc oa oc r xa xc h2 c2 (maxT c.clock (m.take q)) (max c.got (fr + (l.length : Int)))) (fun i _ => m.length - (intOf i).toNat)
        case atStart => exact ⟨0, by omega, rfl, HT.out⟩
        case round =>
          clear HT
          obtain ⟨q, hq, rfl, hT⟩ := hrel
          have HT := hide hT
          obtain ⟨s0, s1, s2, s3, s4, s5, f0, f1, f2, f3, f4, f5⟩ := hT.g.cells
          clear hT
          by_cases hqm : q < m.length
          · obtain ⟨b4, o4, eb, hlt4, ho4⟩ := HMat.out q hqm
            cases eb
            obtain ⟨c0, c1', c2', c3, c4, c5, c6⟩ := ho4.block (w' := wr) (HT.out.fb.cli.2.block _ hlt4)
            have hi0 : (0 : Int) ≤ (q : Int) := by omega
            have hi1 : (q : Int) < (m.length : Int) := by omega
            obtain ⟨T, hTT⟩ : ∃ T, T = maxT c.clock (m.take q) := ⟨_, rfl⟩
            rw [← hTT] at s1 HT
            have HTT := hide hTT
            clear ho4 hlt4 hTT c1' c2' c3 c4 c5 c6
            go_wp2
            go_region_with (first | (go_at_call 25; refine (sMax_any _ _ _).mono ?_; rintro e w8 ⟨rfl, rfl⟩) | fail)
            all_goals (
              go_wp2
              go_roundw
              case rel => exact ⟨q + 1, by omega, by go_num, by rw [maxT_take hqm, ← HTT.out]; exact (HT.out.step (Below.refl _ wr).drew).tick _⟩
              case measure => simp [intOf]; omega)
          · obtain rfl : q = m.length := by omega
            obtain ⟨x0, x1, x2⟩ := cells3t HT.out.x
            obtain ⟨r0, r1, r2, r3, r4, r5, r6, r7, r8, r9, r10, r11, r12, r13, r14, fz⟩ := fif HT.out.fb.res
            obtain ⟨T, hTT⟩ : ∃ T, T = maxT c.clock m := ⟨_, rfl⟩
            rw [List.take_length, ← hTT] at HT s1
            have HTT := hide hTT
            clear hTT
            go_wp2
            refine bodyPost_ret (v := .agg #[.int .i64 c.repl, .int .i64 T, .slice xa r.1.length xc, .int .i64 c.acked, .slice (some ⟨h2, 0, none⟩) c.out.length c2, .int .i64 (max c.got (fr + (l.length : Int))), .int .i64 0, .int .i64 0, .int .i64 0, .int .i64 0, .int .i64 0, .string ⟨#[]⟩, .string ⟨#[]⟩, .int .i64 r.2.1, .int .i64 0]) (by simp [results, Tryd.results6, go_sem, r0, r1, r2, r3, r4, r5, r6, r7, r8, r9, r10, r11, r12, r13, r14]) rfl ?_
            rw [HX3.out HKN.out HC0.out, ← HTT.out]
            have h := HT.out
            refine ⟨xa, xc, some ⟨h2, 0, none⟩, c2, rfl, ?_, ?_, ?_⟩
            · exact OpsAt.set15 h.log (fun a e => by have h3 := (HXL.out a e).2; have h4 := HB.out.lt; omega) _ _ _ _ _ _ _ _ _ _ _ _ _ _ _
            · exact OpsAt.set15 h.out (fun a e => by cases e; have h3 := HG2.out; have h4 := HB6.out.lt; simp at h3; show h2 ≠ _; omega) _ _ _ _ _ _ _ _ _ _ _ _ _ _ _
            · exact below15 h.fb.cli.2 (by omega) _ _ _ _ _ _ _ _ _ _ _ _ _ _ _
      · have hc' : (r.2.2 == 0) = false := by simpa using hc
        have HNC := hide hc
        clear hc
        go_wp2_with (first | (go_at_call 23; (refine (HAD.out _ HB.out.cli.2).mono ?_); rintro e w6 ⟨v6, rfl, hoA, hbA⟩; obtain ⟨xa, xc, rfl, hatA, hxlt⟩ := hoA.at_lt; have HXL := hide hxlt; have HA6 := hide hatA; have HB6 := hide (HB.out.step hbA); clear p0 p1 p2 p3 p4 p5 hbA hoA hatA hxlt; obtain ⟨p0, p1, p2, p3, p4, p5⟩ := (HB6.out.step ((Below.refl _ w6).alloc (Nat.le_refl _) (.cells #[.slice xa r.1.length xc, .int .i64 r.2.1, .int .i64 r.2.2] 52))).cli.cells) | (go_at_call 18; (refine (HIL.out _ _).mono ?_); rintro e w9 ⟨rfl, hb9⟩; have HB9 := hide (FB.step (HB6.out.step ((Below.refl _ w6).alloc (Nat.le_refl _) (.cells #[.slice xa r.1.length xc, .int .i64 r.2.1, .int .i64 r.2.2] 52))) hb9); clear hb9; obtain ⟨p0, p1, p2, p3, p4, p5⟩ := HB9.out.cli.cells; obtain ⟨r0, r1, r2, r3, r4, r5, r6, r7, r8, r9, r10, r11, r12, r13, r14, fz⟩ := fif HB9.out.res) | fail)
        refine bodyPost_ret (v := .agg #[.int .i64 0, .int .i64 0, .slice none 0 0, .int .i64 0, .slice none 0 0, .int .i64 0, .int .i64 0, .int .i64 0, .int .i64 0, .int .i64 0, .int .i64 0, .string ⟨#[]⟩, .string ⟨#[]⟩, .int .i64 0, .int .i64 r.2.2]) (by simp [results, Tryd.results6, go_sem, r0, r1, r2, r3, r4, r5, r6, r7, r8, r9, r10, r11, r12, r13, r14]) rfl (by rw [HX2.out HKN.out HNC.out]; exact STold.ill (below15 HB9.out.cli.2 (by omega) _ _ _ _ _ _ _ _ _ _ _ _ _ _ _))
end Go.Proofs.YtkfjommoogmehaaDoor.OpR
