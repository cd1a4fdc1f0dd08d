/- Proves what spec's copies of a client are, and what it tells of a fault. -/
import Derived.Test.YtohepdnmjaegdaaDoorCliH
import Derived.Test.YtohepdnmjaegdaaDoorCliS
import Derived.Test.YtohepdnmjaegdaaDoorAddW
namespace Go.Proofs.YtohepdnmjaegdaaDoor.OpR
open Go.ChangeShapes Go.WideShapes Go.ChangeAt Go.RowKit
set_option linter.unusedVariables false

theorem OwnAt.lower {w : World} {base base' : Nat} {T : TypeId} {v : Value} {l : List OpV} (h : OwnAt w base T v l) (hb : base' ≤ base) : OwnAt w base' T v l := ⟨owns_base h.1 hb, h.2⟩
/-- What spec tells. -/
def STold (w w' : World) (e : Ending) (x : OutV) : Prop := ∃ la lc oa oc, e = .returned (x.agg la lc oa oc) ∧ OpsAt w' la x.cl.log ∧ OpsAt w' oa x.cl.out ∧ Below w.heap.size w w'
theorem STold.ill {w w' : World} {code : Int} (hb : Below w.heap.size w w') : STold w w' (.returned ((OutV.ill code).agg none 0 none 0)) (OutV.ill code) :=
  ⟨none, 0, none, 0, rfl, fun j hj => absurd hj (by simp [OutV.ill, CliV.zero]), fun j hj => absurd hj (by simp [OutV.ill, CliV.zero]), hb⟩
set_option maxRecDepth 100000 in
set_option maxHeartbeats 400000 in
theorem sIll_any (code : Int) (w : World) :
    Calls Tryd.prog 21 #[.int .i64 code] w fun e w' => e = .returned (.agg #[.int .i64 0, .int .i64 0, .slice none 0 0, .int .i64 0, .slice none 0 0, .int .i64 0, .int .i64 0, .int .i64 0, .int .i64 0, .int .i64 0, .int .i64 0, .string ⟨#[]⟩, .string ⟨#[]⟩, .int .i64 0, .int .i64 code]) ∧ Below w.heap.size w w' := by
  go_enter Tryd.func21, Tryd.ntmps21
  go_wp2
  refine bodyPost_ret (v := .agg #[.int .i64 0, .int .i64 0, .slice none 0 0, .int .i64 0, .slice none 0 0, .int .i64 0, .int .i64 0, .int .i64 0, .int .i64 0, .int .i64 0, .int .i64 0, .string ⟨#[]⟩, .string ⟨#[]⟩, .int .i64 0, .int .i64 code]) (by simp [results, Tryd.results21, go_sem]) rfl ⟨rfl, (Below.refl _ _).alloc (Nat.le_refl _) _⟩
set_option maxRecDepth 100000 in
set_option maxHeartbeats 1000000 in
theorem sCopy_any (c : CliV) (la oa : Option Addr) (lc oc : Nat) (w : World) (hl : c.log.length ≤ 150) (ho : c.out.length ≤ 150) (hA : OpsAt w la c.log) (hC : OpsAt w oa c.out) :
    Calls Tryd.prog 27 #[c.agg la lc oa oc] w fun e w' => ∃ v1 v2, e = .returned (.agg #[.int .i64 c.repl, .int .i64 c.clock, v1, .int .i64 c.acked, v2, .int .i64 c.got]) ∧ OwnAt w' w.heap.size 31 v1 c.log ∧ OwnAt w' w.heap.size 31 v2 c.out ∧ v1.ownBlock ≠ v2.ownBlock ∧ Below w.heap.size w w' := by
  have HA := hide hA
  have HC := hide hC
  have HB0 := hide (CliBox.new w 29 c la lc oa oc)
  unfold CliV.agg
  clear hA hC
  have hE : (((w.alloc (.cells #[.int .i64 c.repl, .int .i64 c.clock, .slice la c.log.length lc, .int .i64 c.acked, .slice oa c.out.length oc, .int .i64 c.got] 29)).alloc (.cells #[.int .i64 0, .int .i64 0, .slice none 0 0, .int .i64 0, .slice none 0 0, .int .i64 0] 29)).alloc (.cells #[] 31)).ownsRow (w.heap.size + 1 + 1) 31 7 (.slice (some ⟨w.heap.size + 1 + 1, 0, none⟩) 0 0) 0 [] := by
    have h := empty_row ((w.alloc (.cells #[.int .i64 c.repl, .int .i64 c.clock, .slice la c.log.length lc, .int .i64 c.acked, .slice oa c.out.length oc, .int .i64 c.got] 29)).alloc (.cells #[.int .i64 0, .int .i64 0, .slice none 0 0, .int .i64 0, .slice none 0 0, .int .i64 0] 29))
    rw [show ((w.alloc (.cells #[.int .i64 c.repl, .int .i64 c.clock, .slice la c.log.length lc, .int .i64 c.acked, .slice oa c.out.length oc, .int .i64 c.got] 29)).alloc (.cells #[.int .i64 0, .int .i64 0, .slice none 0 0, .int .i64 0, .slice none 0 0, .int .i64 0] 29)).heap.size = w.heap.size + 1 + 1 by simp] at h
    exact h
  have hP : Six (((w.alloc (.cells #[.int .i64 c.repl, .int .i64 c.clock, .slice la c.log.length lc, .int .i64 c.acked, .slice oa c.out.length oc, .int .i64 c.got] 29)).alloc (.cells #[.int .i64 0, .int .i64 0, .slice none 0 0, .int .i64 0, .slice none 0 0, .int .i64 0] 29)).alloc (.cells #[] 31)) w.heap.size 29 (.int .i64 c.repl) (.int .i64 c.clock) (.slice la c.log.length lc) (.int .i64 c.acked) (.slice oa c.out.length oc) (.int .i64 c.got) := by
    have h : Six (w.alloc (.cells #[.int .i64 c.repl, .int .i64 c.clock, .slice la c.log.length lc, .int .i64 c.acked, .slice oa c.out.length oc, .int .i64 c.got] 29)) w.heap.size 29 (.int .i64 c.repl) (.int .i64 c.clock) (.slice la c.log.length lc) (.int .i64 c.acked) (.slice oa c.out.length oc) (.int .i64 c.got) := heap_alloc_new w _
    exact (h.step ((Below.refl _ _).alloc (Nat.le_refl _) _)).step ((Below.refl _ _).alloc (Nat.le_refl _) _)
  have hR : Six (((w.alloc (.cells #[.int .i64 c.repl, .int .i64 c.clock, .slice la c.log.length lc, .int .i64 c.acked, .slice oa c.out.length oc, .int .i64 c.got] 29)).alloc (.cells #[.int .i64 0, .int .i64 0, .slice none 0 0, .int .i64 0, .slice none 0 0, .int .i64 0] 29)).alloc (.cells #[] 31)) (w.heap.size + 1) 29 (.int .i64 0) (.int .i64 0) (.slice none 0 0) (.int .i64 0) (.slice none 0 0) (.int .i64 0) := by
    have h := heap_alloc_new (w.alloc (.cells #[.int .i64 c.repl, .int .i64 c.clock, .slice la c.log.length lc, .int .i64 c.acked, .slice oa c.out.length oc, .int .i64 c.got] 29)) (.cells #[.int .i64 0, .int .i64 0, .slice none 0 0, .int .i64 0, .slice none 0 0, .int .i64 0] 29)
    rw [show (w.alloc (.cells #[.int .i64 c.repl, .int .i64 c.clock, .slice la c.log.length lc, .int .i64 c.acked, .slice oa c.out.length oc, .int .i64 c.got] 29)).heap.size = w.heap.size + 1 by simp] at h
    have h2 : Six ((w.alloc (.cells #[.int .i64 c.repl, .int .i64 c.clock, .slice la c.log.length lc, .int .i64 c.acked, .slice oa c.out.length oc, .int .i64 c.got] 29)).alloc (.cells #[.int .i64 0, .int .i64 0, .slice none 0 0, .int .i64 0, .slice none 0 0, .int .i64 0] 29)) (w.heap.size + 1) 29 (.int .i64 0) (.int .i64 0) (.slice none 0 0) (.int .i64 0) (.slice none 0 0) (.int .i64 0) := h
    exact h2.step ((Below.refl _ _).alloc (Nat.le_refl _) _)
  have hB : Below w.heap.size w (((w.alloc (.cells #[.int .i64 c.repl, .int .i64 c.clock, .slice la c.log.length lc, .int .i64 c.acked, .slice oa c.out.length oc, .int .i64 c.got] 29)).alloc (.cells #[.int .i64 0, .int .i64 0, .slice none 0 0, .int .i64 0, .slice none 0 0, .int .i64 0] 29)).alloc (.cells #[] 31)) := (((Below.refl _ _).alloc (Nat.le_refl _) _).alloc (by simp) _).alloc (by simp; omega) _
  have hAx := HA.out.stays hB
  have HE := hide hE
  have HP := hide hP
  have HR := hide hR
  have HBe := hide hB
  have HAx := hide hAx
  clear hE hP hR hB hAx
  obtain ⟨p0, p1, p2, p3, p4, p5, f0, f1, f2, f3, f4, f5⟩ := HP.out.cells
  go_enter Tryd.func27, Tryd.ntmps27
  go_wp2_with (at_builtin; (refine wpList_append_ops rfl _ _ rfl (w.heap.size + 1 + 1) _ [] rfl HE.out la c.log lc rfl HAx.out (by simp <;> omega) (by simp) ?_))
  intro v1 w1 hown1 hgr1 hne1
  have hs3 : (((w.alloc (.cells #[.int .i64 c.repl, .int .i64 c.clock, .slice la c.log.length lc, .int .i64 c.acked, .slice oa c.out.length oc, .int .i64 c.got] 29)).alloc (.cells #[.int .i64 0, .int .i64 0, .slice none 0 0, .int .i64 0, .slice none 0 0, .int .i64 0] 29)).alloc (.cells #[] 31)).heap.size = w.heap.size + 1 + 1 + 1 := by simp
  have hP1 : Six w1 w.heap.size 29 (.int .i64 c.repl) (.int .i64 c.clock) (.slice la c.log.length lc) (.int .i64 c.acked) (.slice oa c.out.length oc) (.int .i64 c.got) := (hgr1.block _ (by omega) (fun e => by simp [Value.ownBlock] at e; omega)).trans HP.out
  have hR1 : Six w1 (w.heap.size + 1) 29 (.int .i64 0) (.int .i64 0) (.slice none 0 0) (.int .i64 0) (.slice none 0 0) (.int .i64 0) := (hgr1.block _ (by omega) (fun e => by simp [Value.ownBlock] at e)).trans HR.out
  have hB1 : Below w.heap.size w w1 := HBe.out.grown hgr1 (by omega) (fun j hj => by simp [Value.ownBlock] at hj; omega)
  have HOw1 : Hid (OwnAt w1 (w.heap.size + 1 + 1) 31 v1 c.log) := ⟨by simpa using hown1, fun e => by first | exact hne1 e | (have := (hne1.1 e).1; simp at this)⟩
  have Hs1 := hide (Nat.le_trans (Nat.le_of_eq hs3.symm) hgr1.size)
  obtain ⟨h1, c1, rfl, hh1, hlt1, _, _, _⟩ := HOw1.out.at
  have hE2 : ((w1.setCell ⟨w.heap.size, 2, none⟩ (.slice (some ⟨h1, 0, none⟩) c.log.length c1)).alloc (.cells #[] 31)).ownsRow w1.heap.size 31 7 (.slice (some ⟨w1.heap.size, 0, none⟩) 0 0) 0 [] := by
    have h := empty_row (w1.setCell ⟨w.heap.size, 2, none⟩ (.slice (some ⟨h1, 0, none⟩) c.log.length c1))
    rw [show (w1.setCell ⟨w.heap.size, 2, none⟩ (.slice (some ⟨h1, 0, none⟩) c.log.length c1)).heap.size = w1.heap.size by simp] at h
    exact h
  have hw1 : w.heap.size < w1.heap.size := by have := Hs1.out; omega
  have hP2 : Six ((w1.setCell ⟨w.heap.size, 2, none⟩ (.slice (some ⟨h1, 0, none⟩) c.log.length c1)).alloc (.cells #[] 31)) w.heap.size 29 (.int .i64 c.repl) (.int .i64 c.clock) (.slice (some ⟨h1, 0, none⟩) c.log.length c1) (.int .i64 c.acked) (.slice oa c.out.length oc) (.int .i64 c.got) := (Six.set2 hP1 _).step ((Below.refl _ _).alloc (Nat.le_refl _) _)
  have hR2 : Six ((w1.setCell ⟨w.heap.size, 2, none⟩ (.slice (some ⟨h1, 0, none⟩) c.log.length c1)).alloc (.cells #[] 31)) (w.heap.size + 1) 29 (.int .i64 0) (.int .i64 0) (.slice none 0 0) (.int .i64 0) (.slice none 0 0) (.int .i64 0) := (Six.other hR1 (by omega)).step ((Below.refl _ _).alloc (Nat.le_refl _) _)
  have hB2 : Below w.heap.size w ((w1.setCell ⟨w.heap.size, 2, none⟩ (.slice (some ⟨h1, 0, none⟩) c.log.length c1)).alloc (.cells #[] 31)) := (hB1.setCell (p := ⟨w.heap.size, 2, none⟩) (Nat.le_refl _) _).alloc (by simp; omega) _
  have hC2 := HC.out.stays hB2
  have hO2 : OwnAt ((w1.setCell ⟨w.heap.size, 2, none⟩ (.slice (some ⟨h1, 0, none⟩) c.log.length c1)).alloc (.cells #[] 31)) (w.heap.size + 1 + 1) 31 (.slice (some ⟨h1, 0, none⟩) c.log.length c1) c.log := (OwnAt.setCell HOw1.out (by omega)).below ((Below.refl _ _).alloc (Nat.le_refl _) _)
  have HP2 := hide hP2
  have HR2 := hide hR2
  have HB2 := hide hB2
  have HE2 := hide hE2
  have HC2 := hide hC2
  have HO2 := hide hO2
  have HH1 := hide (And.intro hh1 hlt1)
  clear p0 p1 p2 p3 p4 p5 f0 f1 f2 f3 f4 f5 hown1 hgr1 hne1 hR1 hB1 hs3 hP2 hR2 hB2 hE2 hC2 hO2 hh1 hlt1
  obtain ⟨p0, p1, p2, p3, p4, p5, f0, f1, f2, f3, f4, f5⟩ := Six.cells hP1
  clear hP1
  go_wp2_with (at_builtin; (refine wpList_append_ops rfl _ _ rfl w1.heap.size _ [] rfl HE2.out oa c.out oc rfl HC2.out (by simp <;> omega) (by simp) ?_))
  intro v2 w2 hown2 hgr2 hne2
  have hs3 : ((w1.setCell ⟨w.heap.size, 2, none⟩ (.slice (some ⟨h1, 0, none⟩) c.log.length c1)).alloc (.cells #[] 31)).heap.size = w1.heap.size + 1 := by simp
  have hP3 : Six w2 w.heap.size 29 (.int .i64 c.repl) (.int .i64 c.clock) (.slice (some ⟨h1, 0, none⟩) c.log.length c1) (.int .i64 c.acked) (.slice oa c.out.length oc) (.int .i64 c.got) := (hgr2.block _ (by omega) (fun e => by simp [Value.ownBlock] at e; omega)).trans HP2.out
  have hR3 : Six w2 (w.heap.size + 1) 29 (.int .i64 0) (.int .i64 0) (.slice none 0 0) (.int .i64 0) (.slice none 0 0) (.int .i64 0) := (hgr2.block _ (by have := Hs1.out; omega) (fun e => by have := Hs1.out; simp [Value.ownBlock] at e; omega)).trans HR2.out
  have hB3 : Below w.heap.size w w2 := HB2.out.grown hgr2 (by omega) (fun j hj => by simp [Value.ownBlock] at hj; omega)
  have hO3 : OwnAt w2 (w.heap.size + 1 + 1) 31 (.slice (some ⟨h1, 0, none⟩) c.log.length c1) c.log := ⟨HO2.out.1.kept hgr2 (.inr (fun e => by have := HH1.out.2; simp [Value.ownBlock] at e; omega)), HO2.out.2⟩
  have HOw2 : Hid (OwnAt w2 w1.heap.size 31 v2 c.out) := ⟨by simpa using hown2, fun e => by first | exact hne2 e | (have := (hne2.1 e).1; simp at this)⟩
  obtain ⟨h2, c2, rfl, hh2, hlt2, _, _, _⟩ := HOw2.out.at
  have HP3 := hide hP3
  have HR3 := hide hR3
  have HB3 := hide hB3
  have HO3 := hide hO3
  have HH2 := hide (And.intro hh2 hlt2)
  clear p0 p1 p2 p3 p4 p5 f0 f1 f2 f3 f4 f5 hown2 hgr2 hne2 hs3 hP3 hR3 hB3 hO3 hh2 hlt2
  obtain ⟨p0, p1, p2, p3, p4, p5, f0, f1, f2, f3, f4, f5⟩ := HP3.out.cells
  obtain ⟨r0, r1, r2, r3, r4, r5, g0, g1, g2, g3, g4, g5⟩ := HR3.out.cells
  go_wp2
  have hh1 := HH1.out
  have hh2 := HH2.out
  have hs1 := Hs1.out
  have hb3 := HB3.out.size
  refine bodyPost_ret (v := .agg #[.int .i64 c.repl, .int .i64 c.clock, .slice (some ⟨h1, 0, none⟩) c.log.length c1, .int .i64 c.acked, .slice (some ⟨h2, 0, none⟩) c.out.length c2, .int .i64 c.got]) (by simp [results, Tryd.results27, go_sem, r0, r1, r2, r3, r4, r5]) rfl ⟨_, _, rfl, ?_, ?_, ?_, ?_⟩
  · refine OwnAt.lower (base := w.heap.size + 1 + 1) ?_ (by omega)
    exact OwnAt.setCell (OwnAt.setCell (OwnAt.setCell (OwnAt.setCell (OwnAt.setCell (OwnAt.setCell (OwnAt.setCell HO3.out (by omega)) (by omega)) (by omega)) (by omega)) (by omega)) (by omega)) (by omega)
  · refine OwnAt.lower (base := w1.heap.size) ?_ (by omega)
    exact OwnAt.setCell (OwnAt.setCell (OwnAt.setCell (OwnAt.setCell (OwnAt.setCell (OwnAt.setCell (OwnAt.setCell HOw2.out (by omega)) (by omega)) (by omega)) (by omega)) (by omega)) (by omega)) (by omega)
  · simp [Value.ownBlock]
    omega
  · exact ((((((HB3.out.setCell (by simp) _).setCell (by simp) _).setCell (by simp) _).setCell (by simp) _).setCell (by simp) _).setCell (by simp) _).setCell (by simp) _
end Go.Proofs.YtohepdnmjaegdaaDoor.OpR
