/- Proves what spec.Move and spec.Set answer, case by case. Proves what spec.Move answers, case by case. Proves what spec.Move answers, case by case. Proves what spec.Set answers, case by case. Proves what spec.Set answers, case by case. Proves what spec.Move and spec.Set answer. -/
import Derived.Test.YtfkgmkcndchkjaaGreatDoorMgG
import Derived.Test.YtfkgmkcndchkjaaGreatDoorMgD
import Derived.Test.YtfkgmkcndchkjaaGreatDoorMgJ
namespace Go.Proofs.YtfkgmkcndchkjaaGreatDoor.OpR
open Go.ChangeShapes Go.WideShapes Go.ChangeAt Go.RowKit
set_option linter.unusedVariables false

theorem tree_of_tof {l : List OpV} (hl : logRight l = true) {d : List NodG} (h : d.map NodG.bare = (tof l).map NodG.bare) : TreeR d := by
  refine (treeR_iff d).1 ?_
  rw [tree_alike h, treeR_iff]
  have := tof_right ((log_iff l).1 hl).1 l.length (Nat.le_refl _)
  rwa [List.take_length] at this
theorem op7c {W : World} {g : Nat} {T : TypeId} {v0 v1 v2 v3 v4 v5 v6 : Value} (h : W.heap[g]? = some (.cells #[v0, v1, v2, v3, v4, v5, v6] T (0, 0))) : W.cell? ⟨g, 0, none⟩ = some v0 ∧ W.cell? ⟨g, 1, none⟩ = some v1 ∧ W.cell? ⟨g, 2, none⟩ = some v2 ∧ W.cell? ⟨g, 3, none⟩ = some v3 ∧ W.cell? ⟨g, 4, none⟩ = some v4 ∧ W.cell? ⟨g, 5, none⟩ = some v5 ∧ W.cell? ⟨g, 6, none⟩ = some v6 := by
  refine ⟨?_, ?_, ?_, ?_, ?_, ?_, ?_⟩ <;> simp [World.cell?, h]
theorem atI_neg (l : List NodG) (x : Int) : decide (atI l x < 0) = !(nodOf l x).isSome := by
  unfold atI nodOf
  cases h : l.findIdx? (fun n => decide (n.id = x)) with
  | none =>
    have h2 : l.find? (fun n => decide (n.id = x)) = none := by
      rw [List.find?_eq_none]
      rw [List.findIdx?_eq_none_iff] at h
      intro n hn
      have := h n hn
      simpa using this
    rw [h2]
    rfl
  | some k =>
    obtain ⟨hk, hp, _⟩ := List.findIdx?_eq_some_iff_getElem.1 h
    have h2 : (l.find? (fun n => decide (n.id = x))).isSome = true := List.find?_isSome.2 ⟨l[k], List.getElem_mem hk, hp⟩
    rw [h2]
    simp
end Go.Proofs.YtfkgmkcndchkjaaGreatDoor.OpR
namespace Go.Proofs.YtfkgmkcndchkjaaGreatDoor.OpR
open Go.ChangeShapes Go.WideShapes Go.ChangeAt Go.RowKit
set_option linter.unusedVariables false

set_option maxRecDepth 100000 in
set_option maxHeartbeats 1000000 in
theorem smv_size1 (c : CliV) (la oa : Option Addr) (lc oc : Nat) (x p : Int) (nm : ByteArray) (w : World) (hz : CSz maxLen c) (hA : OpsAt w la c.log) (hC : OpsAt w oa c.out) (hnm : nm.size ≤ maxLen) (h1 : 8000 < nm.size) : Calls Tryz.prog 10 #[c.agg la lc oa oc, .int .i64 x, .int .i64 p, .string nm] w fun e w' => STold w w' e (OutV.ill 2) := by
  have hr := fun W (hW : Below w.heap.size w W) => sRight_any c la oa lc oc W hz (hA.stays hW) (hC.stays hW)
  have HIL := hide sIll_any
  have hB0 := FB.start w c la lc oa oc
  have HB0 := hide hB0
  obtain ⟨p0, p1, p2, p3, p4, p5⟩ := hB0.cli.cells
  have d1 : decide (8000 < nm.size) = true := by simpa using h1
  have d1' : decide ((8000 : Int) < (nm.size : Int)) = true := by simpa using (show (8000 : Int) < (nm.size : Int) by omega)
  unfold CliV.agg at *
  clear hr hB0 hA hC hz
  go_enter Tryz.func10, Tryz.ntmps10
  go_wp2_with (first | (go_at_call 39; (refine (HIL.out _ _).mono ?_); rintro e w9 ⟨rfl, hb9⟩; have HB9 := hide (HB0.out.step hb9); clear p0 p1 p2 p3 p4 p5 hb9; obtain ⟨r0, r1, r2, r3, r4, r5, r6, r7, r8, r9, r10, r11, r12, r13, r14, fr⟩ := fif HB9.out.res) | fail)
  refine bodyPost_ret (v := .agg #[.int .i64 0, .int .i64 0, .slice none 0 0, .int .i64 0, .slice none 0 0, .int .i64 0, .int .i64 0, .int .i64 0, .int .i64 0, .int .i64 0, .int .i64 0, .string ⟨#[]⟩, .string ⟨#[]⟩, .int .i64 0, .int .i64 2]) (by simp [results, Tryz.results10, go_sem, r0, r1, r2, r3, r4, r5, r6, r7, r8, r9, r10, r11, r12, r13, r14]) rfl (STold.ill (below15 HB9.out.cli.2 (by omega) _ _ _ _ _ _ _ _ _ _ _ _ _ _ _))
set_option maxRecDepth 100000 in
set_option maxHeartbeats 1000000 in
theorem smv_form (c : CliV) (la oa : Option Addr) (lc oc : Nat) (x p : Int) (nm : ByteArray) (w : World) (hz : CSz maxLen c) (hA : OpsAt w la c.log) (hC : OpsAt w oa c.out) (hnm : nm.size ≤ maxLen) (h0 : ¬ 8000 < nm.size) (hcr : cliRight c = false) : Calls Tryz.prog 10 #[c.agg la lc oa oc, .int .i64 x, .int .i64 p, .string nm] w fun e w' => STold w w' e (OutV.ill 1) := by
  have hr := fun W (hW : Below w.heap.size w W) => sRight_any c la oa lc oc W hz (hA.stays hW) (hC.stays hW)
  have HIL := hide sIll_any
  have hB0 := FB.start w c la lc oa oc
  have HB0 := hide hB0
  obtain ⟨p0, p1, p2, p3, p4, p5⟩ := hB0.cli.cells
  have d0 : decide (8000 < nm.size) = false := by simpa using h0
  have d0' : decide ((8000 : Int) < (nm.size : Int)) = false := by simpa using (show ¬ (8000 : Int) < (nm.size : Int) by omega)
  rw [hcr] at hr
  have HR := hide hr
  unfold CliV.agg at *
  clear hr hB0 hA hC hz hcr
  go_enter Tryz.func10, Tryz.ntmps10
  go_wp2_with (first | (go_at_call 40; (refine (HR.out _ HB0.out.cli.2).mono ?_); rintro e w1 ⟨rfl, hb1⟩; have HB1 := hide (HB0.out.step hb1); clear p0 p1 p2 p3 p4 p5 hb1; obtain ⟨p0, p1, p2, p3, p4, p5⟩ := HB1.out.cli.cells) | (go_at_call 39; (refine (HIL.out _ _).mono ?_); rintro e w9 ⟨rfl, hb9⟩; have HB9 := hide (HB1.out.step hb9); clear p0 p1 p2 p3 p4 p5 hb9; obtain ⟨r0, r1, r2, r3, r4, r5, r6, r7, r8, r9, r10, r11, r12, r13, r14, fr⟩ := fif HB9.out.res) | fail)
  refine bodyPost_ret (v := .agg #[.int .i64 0, .int .i64 0, .slice none 0 0, .int .i64 0, .slice none 0 0, .int .i64 0, .int .i64 0, .int .i64 0, .int .i64 0, .int .i64 0, .int .i64 0, .string ⟨#[]⟩, .string ⟨#[]⟩, .int .i64 0, .int .i64 1]) (by simp [results, Tryz.results10, go_sem, r0, r1, r2, r3, r4, r5, r6, r7, r8, r9, r10, r11, r12, r13, r14]) rfl (STold.ill (below15 HB9.out.cli.2 (by omega) _ _ _ _ _ _ _ _ _ _ _ _ _ _ _))
set_option maxRecDepth 100000 in
set_option maxHeartbeats 1000000 in
theorem smv_time (c : CliV) (la oa : Option Addr) (lc oc : Nat) (x p : Int) (nm : ByteArray) (w : World) (hz : CSz maxLen c) (hA : OpsAt w la c.log) (hC : OpsAt w oa c.out) (hnm : nm.size ≤ maxLen) (h0 : ¬ 8000 < nm.size) (hcr : cliRight c = true) (ht : 1000000 ≤ c.clock) : Calls Tryz.prog 10 #[c.agg la lc oa oc, .int .i64 x, .int .i64 p, .string nm] w fun e w' => STold w w' e (OutV.ill 9) := by
  have hr := fun W (hW : Below w.heap.size w W) => sRight_any c la oa lc oc W hz (hA.stays hW) (hC.stays hW)
  have HIL := hide sIll_any
  have hB0 := FB.start w c la lc oa oc
  have HB0 := hide hB0
  obtain ⟨p0, p1, p2, p3, p4, p5⟩ := hB0.cli.cells
  have d0 : decide (8000 < nm.size) = false := by simpa using h0
  have d0' : decide ((8000 : Int) < (nm.size : Int)) = false := by simpa using (show ¬ (8000 : Int) < (nm.size : Int) by omega)
  rw [hcr] at hr
  have HR := hide hr
  have dt : decide (1000000 ≤ c.clock) = true := by simpa using ht
  unfold CliV.agg at *
  clear hr hB0 hA hC hz hcr ht
  go_enter Tryz.func10, Tryz.ntmps10
  go_wp2_with (first | (go_at_call 40; (refine (HR.out _ HB0.out.cli.2).mono ?_); rintro e w1 ⟨rfl, hb1⟩; have HB1 := hide (HB0.out.step hb1); clear p0 p1 p2 p3 p4 p5 hb1; obtain ⟨p0, p1, p2, p3, p4, p5⟩ := HB1.out.cli.cells) | (go_at_call 39; (refine (HIL.out _ _).mono ?_); rintro e w9 ⟨rfl, hb9⟩; have HB9 := hide (HB1.out.step hb9); clear p0 p1 p2 p3 p4 p5 hb9; obtain ⟨r0, r1, r2, r3, r4, r5, r6, r7, r8, r9, r10, r11, r12, r13, r14, fr⟩ := fif HB9.out.res) | fail)
  refine bodyPost_ret (v := .agg #[.int .i64 0, .int .i64 0, .slice none 0 0, .int .i64 0, .slice none 0 0, .int .i64 0, .int .i64 0, .int .i64 0, .int .i64 0, .int .i64 0, .int .i64 0, .string ⟨#[]⟩, .string ⟨#[]⟩, .int .i64 0, .int .i64 9]) (by simp [results, Tryz.results10, go_sem, r0, r1, r2, r3, r4, r5, r6, r7, r8, r9, r10, r11, r12, r13, r14]) rfl (STold.ill (below15 HB9.out.cli.2 (by omega) _ _ _ _ _ _ _ _ _ _ _ _ _ _ _))
set_option maxRecDepth 100000 in
set_option maxHeartbeats 1000000 in
theorem smv_wrong (c : CliV) (la oa : Option Addr) (lc oc : Nat) (x p : Int) (nm : ByteArray) (w : World) (hz : CSz maxLen c) (hA : OpsAt w la c.log) (hC : OpsAt w oa c.out) (hnm : nm.size ≤ maxLen) (h0 : ¬ 8000 < nm.size) (hcr : cliRight c = true) (ht : ¬ 1000000 ≤ c.clock) (hop : opRight ⟨c.clock + 1, c.repl, 1, x, p, nm, ⟨#[]⟩⟩ = false) : Calls Tryz.prog 10 #[c.agg la lc oa oc, .int .i64 x, .int .i64 p, .string nm] w fun e w' => STold w w' e (OutV.ill 1) := by
  have hr := fun W (hW : Below w.heap.size w W) => sRight_any c la oa lc oc W hz (hA.stays hW) (hC.stays hW)
  have HIL := hide sIll_any
  have hB0 := FB.start w c la lc oa oc
  have HB0 := hide hB0
  obtain ⟨p0, p1, p2, p3, p4, p5⟩ := hB0.cli.cells
  have d0 : decide (8000 < nm.size) = false := by simpa using h0
  have d0' : decide ((8000 : Int) < (nm.size : Int)) = false := by simpa using (show ¬ (8000 : Int) < (nm.size : Int) by omega)
  obtain ⟨T9, hT9⟩ : ∃ T9, T9 = c.clock + 1 := ⟨_, rfl⟩
  have hR := (cliR_iff c).1 hcr
  have hlg := log_yes hR.log
  have hl150 := hR.log.2.1
  have ho30 := hR.few
  have hk0 := hR.clock
  have HT9 := hide hT9
  have hwk : wrap64 (c.clock + 1) = T9 := by unfold wrap64; omega
  have hwk2 : IntKind.i64.wrap (c.clock + 1) = T9 := by rw [IntKind.wrap_i64]; omega
  have dt : decide (1000000 ≤ c.clock) = false := by simpa using ht
  have hso := fun W => sOp_any ⟨T9, c.repl, 1, x, p, nm, ⟨#[]⟩⟩ W hnm (by show (0 : Nat) ≤ maxLen; omega)
  dsimp only [OpV.agg] at hso
  rw [hcr] at hr
  rw [← hT9] at hop
  rw [hop] at hso
  have HR := hide hr
  have HO := hide hso
  unfold CliV.agg at *
  clear hr hso hB0 hA hC hz hcr ht hop hT9 hR hlg hl150 ho30 hk0
  go_enter Tryz.func10, Tryz.ntmps10
  go_wp2_with (first | (go_at_call 40; (refine (HR.out _ HB0.out.cli.2).mono ?_); rintro e w1 ⟨rfl, hb1⟩; have HB1 := hide (HB0.out.step hb1); clear p0 p1 p2 p3 p4 p5 hb1; obtain ⟨p0, p1, p2, p3, p4, p5⟩ := HB1.out.cli.cells) | (go_at_call 41; (refine (HO.out _).mono ?_); rintro e w2 ⟨rfl, hb2⟩; have hal := (Below.refl w1.heap.size w1).alloc (Nat.le_refl _) (.cells #[.int .i64 T9, .int .i64 c.repl, .int .i64 1, .int .i64 x, .int .i64 p, .string nm, .string ⟨#[]⟩] 30); have HB2 := hide ((HB1.out.step hal).step hb2); have HP2 := hide ((hb2.block w1.heap.size (by simp)).trans (heap_alloc_new w1 (.cells #[.int .i64 T9, .int .i64 c.repl, .int .i64 1, .int .i64 x, .int .i64 p, .string nm, .string ⟨#[]⟩] 30))); clear p0 p1 p2 p3 p4 p5 hb2 hal; obtain ⟨p0, p1, p2, p3, p4, p5⟩ := HB2.out.cli.cells; obtain ⟨q0, q1, q2, q3, q4, q5, q6⟩ := op7c HP2.out) | (go_at_call 39; (refine (HIL.out _ _).mono ?_); rintro e w9 ⟨rfl, hb9⟩; have HB9 := hide (HB2.out.step hb9); clear p0 p1 p2 p3 p4 p5 q0 q1 q2 q3 q4 q5 q6 hb9; obtain ⟨r0, r1, r2, r3, r4, r5, r6, r7, r8, r9, r10, r11, r12, r13, r14, fr⟩ := fif HB9.out.res) | fail)
  refine bodyPost_ret (v := .agg #[.int .i64 0, .int .i64 0, .slice none 0 0, .int .i64 0, .slice none 0 0, .int .i64 0, .int .i64 0, .int .i64 0, .int .i64 0, .int .i64 0, .int .i64 0, .string ⟨#[]⟩, .string ⟨#[]⟩, .int .i64 0, .int .i64 1]) (by simp [results, Tryz.results10, go_sem, r0, r1, r2, r3, r4, r5, r6, r7, r8, r9, r10, r11, r12, r13, r14]) rfl (STold.ill (below15 HB9.out.cli.2 (by omega) _ _ _ _ _ _ _ _ _ _ _ _ _ _ _))
set_option maxRecDepth 100000 in
set_option maxHeartbeats 1000000 in
theorem smv_place (c : CliV) (la oa : Option Addr) (lc oc : Nat) (x p : Int) (nm : ByteArray) (w : World) (hz : CSz maxLen c) (hA : OpsAt w la c.log) (hC : OpsAt w oa c.out) (hnm : nm.size ≤ maxLen) (h0 : ¬ 8000 < nm.size) (hcr : cliRight c = true) (ht : ¬ 1000000 ≤ c.clock) (hop : opRight ⟨c.clock + 1, c.repl, 1, x, p, nm, ⟨#[]⟩⟩ = true) (CD : Int) (hcd : mayCode (tof c.log) x p = CD) (hc0 : CD ≠ 0) : Calls Tryz.prog 10 #[c.agg la lc oa oc, .int .i64 x, .int .i64 p, .string nm] w fun e w' => STold w w' e (OutV.ill CD) := by
  have hr := fun W (hW : Below w.heap.size w W) => sRight_any c la oa lc oc W hz (hA.stays hW) (hC.stays hW)
  have HIL := hide sIll_any
  have hB0 := FB.start w c la lc oa oc
  have HB0 := hide hB0
  obtain ⟨p0, p1, p2, p3, p4, p5⟩ := hB0.cli.cells
  have d0 : decide (8000 < nm.size) = false := by simpa using h0
  have d0' : decide ((8000 : Int) < (nm.size : Int)) = false := by simpa using (show ¬ (8000 : Int) < (nm.size : Int) by omega)
  obtain ⟨T9, hT9⟩ : ∃ T9, T9 = c.clock + 1 := ⟨_, rfl⟩
  have hR := (cliR_iff c).1 hcr
  have hlg := log_yes hR.log
  have hl150 := hR.log.2.1
  have ho30 := hR.few
  have hk0 := hR.clock
  have HT9 := hide hT9
  have hwk : wrap64 (c.clock + 1) = T9 := by unfold wrap64; omega
  have hwk2 : IntKind.i64.wrap (c.clock + 1) = T9 := by rw [IntKind.wrap_i64]; omega
  have dt : decide (1000000 ≤ c.clock) = false := by simpa using ht
  have hso := fun W => sOp_any ⟨T9, c.repl, 1, x, p, nm, ⟨#[]⟩⟩ W hnm (by show (0 : Nat) ≤ maxLen; omega)
  dsimp only [OpV.agg] at hso
  rw [hcr] at hr
  rw [← hT9] at hop
  rw [hop] at hso
  have hof := fun W (hW : Below w.heap.size w W) => sOf_any c.log la lc W hl150 (hA.stays hW) hR.log.1
  have HOF := hide hof
  have HLg := hide hlg
  have HCD := hide hcd
  have c0 : (CD == 0) = false := by simpa using hc0
  have c1' : (CD != 0) = true := by simpa using hc0
  have HR := hide hr
  have HO := hide hso
  unfold CliV.agg at *
  clear hr hso hof hB0 hA hC hz hcr ht hop hT9 hR hlg hl150 ho30 hk0 hcd hc0
  go_enter Tryz.func10, Tryz.ntmps10
  go_wp2_with (first | (go_at_call 40; (refine (HR.out _ HB0.out.cli.2).mono ?_); rintro e w1 ⟨rfl, hb1⟩; have HB1 := hide (HB0.out.step hb1); clear p0 p1 p2 p3 p4 p5 hb1; obtain ⟨p0, p1, p2, p3, p4, p5⟩ := HB1.out.cli.cells) | (go_at_call 41; (refine (HO.out _).mono ?_); rintro e w2 ⟨rfl, hb2⟩; have hal := (Below.refl w1.heap.size w1).alloc (Nat.le_refl _) (.cells #[.int .i64 T9, .int .i64 c.repl, .int .i64 1, .int .i64 x, .int .i64 p, .string nm, .string ⟨#[]⟩] 30); have HB2 := hide ((HB1.out.step hal).step hb2); have HP2 := hide ((hb2.block w1.heap.size (by simp)).trans (heap_alloc_new w1 (.cells #[.int .i64 T9, .int .i64 c.repl, .int .i64 1, .int .i64 x, .int .i64 p, .string nm, .string ⟨#[]⟩] 30))); clear p0 p1 p2 p3 p4 p5 hb2 hal; obtain ⟨p0, p1, p2, p3, p4, p5⟩ := HB2.out.cli.cells; obtain ⟨q0, q1, q2, q3, q4, q5, q6⟩ := op7c HP2.out) | (go_at_call 43; (refine (HOF.out _ HB2.out.cli.2).mono ?_); rintro e w3 ⟨v, dd, rfl, hts, hdb, hb3⟩; obtain ⟨ao1, c1, rfl, hc1, _⟩ := owns_atN hts.row; have HB3 := hide (HB2.out.step hb3); have HTn := hide hts.nodesAt; have HDb := hide hdb; have HTR := hide (tree_of_tof HLg.out hdb); have HP3 := hide ((hb3.block _ (Array.getElem?_eq_some_iff.1 HP2.out).1).trans HP2.out); clear p0 p1 p2 p3 p4 p5 q0 q1 q2 q3 q4 q5 q6 hts hdb hb3 hc1; obtain ⟨p0, p1, p2, p3, p4, p5⟩ := HB3.out.cli.cells; obtain ⟨q0, q1, q2, q3, q4, q5, q6⟩ := op7c HP3.out) | (go_at_call 42; have hmy := sMay_any dd ao1 c1 x p w3 HTR.out HTn.out; rw [(may_alike HDb.out x p).trans HCD.out] at hmy; (refine hmy.mono ?_); rintro e w4 ⟨rfl, hb4⟩; have HB4 := hide (HB3.out.step hb4); have HP4 := hide ((hb4.block _ (Array.getElem?_eq_some_iff.1 HP3.out).1).trans HP3.out); clear p0 p1 p2 p3 p4 p5 q0 q1 q2 q3 q4 q5 q6 hb4 hmy; obtain ⟨p0, p1, p2, p3, p4, p5⟩ := HB4.out.cli.cells; obtain ⟨q0, q1, q2, q3, q4, q5, q6⟩ := op7c HP4.out) | (go_at_call 39; (refine (HIL.out _ _).mono ?_); rintro e w9 ⟨rfl, hb9⟩; have HB9 := hide (HB4.out.step hb9); clear p0 p1 p2 p3 p4 p5 q0 q1 q2 q3 q4 q5 q6 hb9; obtain ⟨r0, r1, r2, r3, r4, r5, r6, r7, r8, r9, r10, r11, r12, r13, r14, fr⟩ := fif HB9.out.res) | fail)
  refine bodyPost_ret (v := .agg #[.int .i64 0, .int .i64 0, .slice none 0 0, .int .i64 0, .slice none 0 0, .int .i64 0, .int .i64 0, .int .i64 0, .int .i64 0, .int .i64 0, .int .i64 0, .string ⟨#[]⟩, .string ⟨#[]⟩, .int .i64 0, .int .i64 CD]) (by simp [results, Tryz.results10, go_sem, r0, r1, r2, r3, r4, r5, r6, r7, r8, r9, r10, r11, r12, r13, r14]) rfl (STold.ill (below15 HB9.out.cli.2 (by omega) _ _ _ _ _ _ _ _ _ _ _ _ _ _ _))
set_option maxRecDepth 100000 in
set_option maxHeartbeats 1000000 in
theorem smv_full (c : CliV) (la oa : Option Addr) (lc oc : Nat) (x p : Int) (nm : ByteArray) (w : World) (hz : CSz maxLen c) (hA : OpsAt w la c.log) (hC : OpsAt w oa c.out) (hnm : nm.size ≤ maxLen) (h0 : ¬ 8000 < nm.size) (hcr : cliRight c = true) (ht : ¬ 1000000 ≤ c.clock) (hop : opRight ⟨c.clock + 1, c.repl, 1, x, p, nm, ⟨#[]⟩⟩ = true) (CD : Int) (hcd : mayCode (tof c.log) x p = CD) (hc0 : CD = 0) (hfu : (decide (30 ≤ c.out.length) || decide (150 ≤ c.log.length)) = true) : Calls Tryz.prog 10 #[c.agg la lc oa oc, .int .i64 x, .int .i64 p, .string nm] w fun e w' => STold w w' e (OutV.ill 9) := by
  have hr := fun W (hW : Below w.heap.size w W) => sRight_any c la oa lc oc W hz (hA.stays hW) (hC.stays hW)
  have HIL := hide sIll_any
  have hB0 := FB.start w c la lc oa oc
  have HB0 := hide hB0
  obtain ⟨p0, p1, p2, p3, p4, p5⟩ := hB0.cli.cells
  have d0 : decide (8000 < nm.size) = false := by simpa using h0
  have d0' : decide ((8000 : Int) < (nm.size : Int)) = false := by simpa using (show ¬ (8000 : Int) < (nm.size : Int) by omega)
  obtain ⟨T9, hT9⟩ : ∃ T9, T9 = c.clock + 1 := ⟨_, rfl⟩
  have hR := (cliR_iff c).1 hcr
  have hlg := log_yes hR.log
  have hl150 := hR.log.2.1
  have ho30 := hR.few
  have hk0 := hR.clock
  have HT9 := hide hT9
  have hwk : wrap64 (c.clock + 1) = T9 := by unfold wrap64; omega
  have hwk2 : IntKind.i64.wrap (c.clock + 1) = T9 := by rw [IntKind.wrap_i64]; omega
  have dt : decide (1000000 ≤ c.clock) = false := by simpa using ht
  have hso := fun W => sOp_any ⟨T9, c.repl, 1, x, p, nm, ⟨#[]⟩⟩ W hnm (by show (0 : Nat) ≤ maxLen; omega)
  dsimp only [OpV.agg] at hso
  rw [hcr] at hr
  rw [← hT9] at hop
  rw [hop] at hso
  have hof := fun W (hW : Below w.heap.size w W) => sOf_any c.log la lc W hl150 (hA.stays hW) hR.log.1
  have HOF := hide hof
  have HLg := hide hlg
  subst hc0
  have HCD := hide hcd
  have hfl := fun W => sFull_any c la oa lc oc W _ hfu hl150 ho30
  have HFu := hide hfl
  have HR := hide hr
  have HO := hide hso
  unfold CliV.agg at *
  clear hr hso hof hfl hB0 hA hC hz hcr ht hop hT9 hR hlg hl150 ho30 hk0 hfu hcd
  go_enter Tryz.func10, Tryz.ntmps10
  go_wp2_with (first | (go_at_call 40; (refine (HR.out _ HB0.out.cli.2).mono ?_); rintro e w1 ⟨rfl, hb1⟩; have HB1 := hide (HB0.out.step hb1); clear p0 p1 p2 p3 p4 p5 hb1; obtain ⟨p0, p1, p2, p3, p4, p5⟩ := HB1.out.cli.cells) | (go_at_call 41; (refine (HO.out _).mono ?_); rintro e w2 ⟨rfl, hb2⟩; have hal := (Below.refl w1.heap.size w1).alloc (Nat.le_refl _) (.cells #[.int .i64 T9, .int .i64 c.repl, .int .i64 1, .int .i64 x, .int .i64 p, .string nm, .string ⟨#[]⟩] 30); have HB2 := hide ((HB1.out.step hal).step hb2); have HP2 := hide ((hb2.block w1.heap.size (by simp)).trans (heap_alloc_new w1 (.cells #[.int .i64 T9, .int .i64 c.repl, .int .i64 1, .int .i64 x, .int .i64 p, .string nm, .string ⟨#[]⟩] 30))); clear p0 p1 p2 p3 p4 p5 hb2 hal; obtain ⟨p0, p1, p2, p3, p4, p5⟩ := HB2.out.cli.cells; obtain ⟨q0, q1, q2, q3, q4, q5, q6⟩ := op7c HP2.out) | (go_at_call 43; (refine (HOF.out _ HB2.out.cli.2).mono ?_); rintro e w3 ⟨v, dd, rfl, hts, hdb, hb3⟩; obtain ⟨ao1, c1, rfl, hc1, _⟩ := owns_atN hts.row; have HB3 := hide (HB2.out.step hb3); have HTn := hide hts.nodesAt; have HDb := hide hdb; have HTR := hide (tree_of_tof HLg.out hdb); have HP3 := hide ((hb3.block _ (Array.getElem?_eq_some_iff.1 HP2.out).1).trans HP2.out); clear p0 p1 p2 p3 p4 p5 q0 q1 q2 q3 q4 q5 q6 hts hdb hb3 hc1; obtain ⟨p0, p1, p2, p3, p4, p5⟩ := HB3.out.cli.cells; obtain ⟨q0, q1, q2, q3, q4, q5, q6⟩ := op7c HP3.out) | (go_at_call 42; have hmy := sMay_any dd ao1 c1 x p w3 HTR.out HTn.out; rw [(may_alike HDb.out x p).trans HCD.out] at hmy; (refine hmy.mono ?_); rintro e w4 ⟨rfl, hb4⟩; have HB4 := hide (HB3.out.step hb4); have HP4 := hide ((hb4.block _ (Array.getElem?_eq_some_iff.1 HP3.out).1).trans HP3.out); clear p0 p1 p2 p3 p4 p5 q0 q1 q2 q3 q4 q5 q6 hb4 hmy; obtain ⟨p0, p1, p2, p3, p4, p5⟩ := HB4.out.cli.cells; obtain ⟨q0, q1, q2, q3, q4, q5, q6⟩ := op7c HP4.out) | (go_at_call 44; (refine (HFu.out _).mono ?_); rintro e w5 ⟨rfl, hb5⟩; have HB5 := hide (HB4.out.step hb5); have HP5 := hide ((hb5.block _ (Array.getElem?_eq_some_iff.1 HP4.out).1).trans HP4.out); clear p0 p1 p2 p3 p4 p5 q0 q1 q2 q3 q4 q5 q6 hb5; obtain ⟨p0, p1, p2, p3, p4, p5⟩ := HB5.out.cli.cells; obtain ⟨q0, q1, q2, q3, q4, q5, q6⟩ := op7c HP5.out) | (go_at_call 39; (refine (HIL.out _ _).mono ?_); rintro e w9 ⟨rfl, hb9⟩; have HB9 := hide (HB5.out.step hb9); clear p0 p1 p2 p3 p4 p5 q0 q1 q2 q3 q4 q5 q6 hb9; obtain ⟨r0, r1, r2, r3, r4, r5, r6, r7, r8, r9, r10, r11, r12, r13, r14, fr⟩ := fif HB9.out.res) | fail)
  refine bodyPost_ret (v := .agg #[.int .i64 0, .int .i64 0, .slice none 0 0, .int .i64 0, .slice none 0 0, .int .i64 0, .int .i64 0, .int .i64 0, .int .i64 0, .int .i64 0, .int .i64 0, .string ⟨#[]⟩, .string ⟨#[]⟩, .int .i64 0, .int .i64 9]) (by simp [results, Tryz.results10, go_sem, r0, r1, r2, r3, r4, r5, r6, r7, r8, r9, r10, r11, r12, r13, r14]) rfl (STold.ill (below15 HB9.out.cli.2 (by omega) _ _ _ _ _ _ _ _ _ _ _ _ _ _ _))
end Go.Proofs.YtfkgmkcndchkjaaGreatDoor.OpR
namespace Go.Proofs.YtfkgmkcndchkjaaGreatDoor.OpR
open Go.ChangeShapes Go.WideShapes Go.ChangeAt Go.RowKit
set_option linter.unusedVariables false

set_option maxRecDepth 100000 in
set_option maxHeartbeats 1000000 in
theorem smv_ok (c : CliV) (la oa : Option Addr) (lc oc : Nat) (x p : Int) (nm : ByteArray) (w : World) (hz : CSz maxLen c) (hA : OpsAt w la c.log) (hC : OpsAt w oa c.out) (hnm : nm.size ≤ maxLen) (h0 : ¬ 8000 < nm.size) (hcr : cliRight c = true) (ht : ¬ 1000000 ≤ c.clock) (hop : opRight ⟨c.clock + 1, c.repl, 1, x, p, nm, ⟨#[]⟩⟩ = true) (CD : Int) (hcd : mayCode (tof c.log) x p = CD) (hc0 : CD = 0) (hfu : (decide (30 ≤ c.out.length) || decide (150 ≤ c.log.length)) = false) : Calls Tryz.prog 10 #[c.agg la lc oa oc, .int .i64 x, .int .i64 p, .string nm] w fun e w' => STold w w' e ⟨putC c ⟨c.clock + 1, c.repl, 1, x, p, nm, ⟨#[]⟩⟩, ⟨c.clock + 1, c.repl, 1, x, p, nm, ⟨#[]⟩⟩, 0, 0⟩ := by
  have hr := fun W (hW : Below w.heap.size w W) => sRight_any c la oa lc oc W hz (hA.stays hW) (hC.stays hW)
  have HIL := hide sIll_any
  have hB0 := FB.start w c la lc oa oc
  have HB0 := hide hB0
  obtain ⟨p0, p1, p2, p3, p4, p5⟩ := hB0.cli.cells
  have d0 : decide (8000 < nm.size) = false := by simpa using h0
  have d0' : decide ((8000 : Int) < (nm.size : Int)) = false := by simpa using (show ¬ (8000 : Int) < (nm.size : Int) by omega)
  obtain ⟨T9, hT9⟩ : ∃ T9, T9 = c.clock + 1 := ⟨_, rfl⟩
  have hR := (cliR_iff c).1 hcr
  have hlg := log_yes hR.log
  have hl150 := hR.log.2.1
  have ho30 := hR.few
  have hk0 := hR.clock
  have HT9 := hide hT9
  have hwk : wrap64 (c.clock + 1) = T9 := by unfold wrap64; omega
  have hwk2 : IntKind.i64.wrap (c.clock + 1) = T9 := by rw [IntKind.wrap_i64]; omega
  have dt : decide (1000000 ≤ c.clock) = false := by simpa using ht
  have hso := fun W => sOp_any ⟨T9, c.repl, 1, x, p, nm, ⟨#[]⟩⟩ W hnm (by show (0 : Nat) ≤ maxLen; omega)
  dsimp only [OpV.agg] at hso
  rw [hcr] at hr
  rw [← hT9] at hop
  rw [hop] at hso
  have hof := fun W (hW : Below w.heap.size w W) => sOf_any c.log la lc W hl150 (hA.stays hW) hR.log.1
  have HOF := hide hof
  have HLg := hide hlg
  subst hc0
  have HCD := hide hcd
  have hfl := fun W => sFull_any c la oa lc oc W _ hfu hl150 ho30
  have HFu := hide hfl
  have hpu := fun W (hW : Below w.heap.size w W) => sPut_at c la oa lc oc ⟨T9, c.repl, 1, x, p, nm, ⟨#[]⟩⟩ W (by simp at hfu; omega) (by simp at hfu; omega) (hA.stays hW) (hC.stays hW)
  dsimp only [OpV.agg] at hpu
  have HPu := hide hpu
  have HR := hide hr
  have HO := hide hso
  rw [← hT9]
  unfold CliV.agg at *
  clear hr hso hof hfl hpu hB0 hA hC hz hcr ht hop hT9 hR hlg hl150 ho30 hk0 hfu hcd
  go_enter Tryz.func10, Tryz.ntmps10
  go_wp2_with (first | (go_at_call 40; (refine (HR.out _ HB0.out.cli.2).mono ?_); rintro e w1 ⟨rfl, hb1⟩; have HB1 := hide (HB0.out.step hb1); clear p0 p1 p2 p3 p4 p5 hb1; obtain ⟨p0, p1, p2, p3, p4, p5⟩ := HB1.out.cli.cells) | (go_at_call 41; (refine (HO.out _).mono ?_); rintro e w2 ⟨rfl, hb2⟩; have hal := (Below.refl w1.heap.size w1).alloc (Nat.le_refl _) (.cells #[.int .i64 T9, .int .i64 c.repl, .int .i64 1, .int .i64 x, .int .i64 p, .string nm, .string ⟨#[]⟩] 30); have HB2 := hide ((HB1.out.step hal).step hb2); have HP2 := hide ((hb2.block w1.heap.size (by simp)).trans (heap_alloc_new w1 (.cells #[.int .i64 T9, .int .i64 c.repl, .int .i64 1, .int .i64 x, .int .i64 p, .string nm, .string ⟨#[]⟩] 30))); clear p0 p1 p2 p3 p4 p5 hb2 hal; obtain ⟨p0, p1, p2, p3, p4, p5⟩ := HB2.out.cli.cells; obtain ⟨q0, q1, q2, q3, q4, q5, q6⟩ := op7c HP2.out) | (go_at_call 43; (refine (HOF.out _ HB2.out.cli.2).mono ?_); rintro e w3 ⟨v, dd, rfl, hts, hdb, hb3⟩; obtain ⟨ao1, c1, rfl, hc1, _⟩ := owns_atN hts.row; have HB3 := hide (HB2.out.step hb3); have HTn := hide hts.nodesAt; have HDb := hide hdb; have HTR := hide (tree_of_tof HLg.out hdb); have HP3 := hide ((hb3.block _ (Array.getElem?_eq_some_iff.1 HP2.out).1).trans HP2.out); clear p0 p1 p2 p3 p4 p5 q0 q1 q2 q3 q4 q5 q6 hts hdb hb3 hc1; obtain ⟨p0, p1, p2, p3, p4, p5⟩ := HB3.out.cli.cells; obtain ⟨q0, q1, q2, q3, q4, q5, q6⟩ := op7c HP3.out) | (go_at_call 42; have hmy := sMay_any dd ao1 c1 x p w3 HTR.out HTn.out; rw [(may_alike HDb.out x p).trans HCD.out] at hmy; (refine hmy.mono ?_); rintro e w4 ⟨rfl, hb4⟩; have HB4 := hide (HB3.out.step hb4); have HP4 := hide ((hb4.block _ (Array.getElem?_eq_some_iff.1 HP3.out).1).trans HP3.out); clear p0 p1 p2 p3 p4 p5 q0 q1 q2 q3 q4 q5 q6 hb4 hmy; obtain ⟨p0, p1, p2, p3, p4, p5⟩ := HB4.out.cli.cells; obtain ⟨q0, q1, q2, q3, q4, q5, q6⟩ := op7c HP4.out) | (go_at_call 44; (refine (HFu.out _).mono ?_); rintro e w5 ⟨rfl, hb5⟩; have HB5 := hide (HB4.out.step hb5); have HP5 := hide ((hb5.block _ (Array.getElem?_eq_some_iff.1 HP4.out).1).trans HP4.out); clear p0 p1 p2 p3 p4 p5 q0 q1 q2 q3 q4 q5 q6 hb5; obtain ⟨p0, p1, p2, p3, p4, p5⟩ := HB5.out.cli.cells; obtain ⟨q0, q1, q2, q3, q4, q5, q6⟩ := op7c HP5.out) | (go_at_call 45; (refine (HPu.out _ HB5.out.cli.2).mono ?_); intro e w6 h6; obtain ⟨xl, xlc, xo, xoc, he, hL, hO, hx1, hx2, hb6⟩ := h6; dsimp only [OutV.agg, putC] at he; subst he; have HB6 := hide (HB5.out.step hb6); have HX := hide (And.intro hL (And.intro hO (And.intro hx1 hx2))); clear p0 p1 p2 p3 p4 p5 q0 q1 q2 q3 q4 q5 q6 hL hO hx1 hx2 hb6; obtain ⟨r0, r1, r2, r3, r4, r5, r6, r7, r8, r9, r10, r11, r12, r13, r14, fr⟩ := fif HB6.out.res) | fail)
  obtain ⟨hL, hO, hl1, hl2⟩ := HX.out
  have hh := HB5.out.lt
  refine bodyPost_ret (v := .agg #[.int .i64 c.repl, .int .i64 T9, .slice xl (c.log ++ [(⟨T9, c.repl, 1, x, p, nm, ⟨#[]⟩⟩ : OpV)]).length xlc, .int .i64 c.acked, .slice xo (c.out ++ [(⟨T9, c.repl, 1, x, p, nm, ⟨#[]⟩⟩ : OpV)]).length xoc, .int .i64 c.got, .int .i64 T9, .int .i64 c.repl, .int .i64 1, .int .i64 x, .int .i64 p, .string nm, .string ⟨#[]⟩, .int .i64 0, .int .i64 0]) (by simp [results, Tryz.results10, go_sem, r0, r1, r2, r3, r4, r5, r6, r7, r8, r9, r10, r11, r12, r13, r14]) rfl ⟨xl, xlc, xo, xoc, rfl, OpsAt.set15 hL (fun a e => by have := hl1 a e; omega) _ _ _ _ _ _ _ _ _ _ _ _ _ _ _, OpsAt.set15 hO (fun a e => by have := hl2 a e; omega) _ _ _ _ _ _ _ _ _ _ _ _ _ _ _, below15 HB6.out.cli.2 (by omega) _ _ _ _ _ _ _ _ _ _ _ _ _ _ _⟩
end Go.Proofs.YtfkgmkcndchkjaaGreatDoor.OpR
namespace Go.Proofs.YtfkgmkcndchkjaaGreatDoor.OpR
open Go.ChangeShapes Go.WideShapes Go.ChangeAt Go.RowKit
set_option linter.unusedVariables false

set_option maxRecDepth 100000 in
set_option maxHeartbeats 1000000 in
theorem sst_size1 (c : CliV) (la oa : Option Addr) (lc oc : Nat) (x : Int) (nm vl : ByteArray) (w : World) (hz : CSz maxLen c) (hA : OpsAt w la c.log) (hC : OpsAt w oa c.out) (hnm : nm.size ≤ maxLen) (hvl : vl.size ≤ maxLen) (h1 : 8000 < nm.size) : Calls Tryz.prog 18 #[c.agg la lc oa oc, .int .i64 x, .string nm, .string vl] w fun e w' => STold w w' e (OutV.ill 2) := by
  have hr := fun W (hW : Below w.heap.size w W) => sRight_any c la oa lc oc W hz (hA.stays hW) (hC.stays hW)
  have HIL := hide sIll_any
  have hB0 := FB.start w c la lc oa oc
  have HB0 := hide hB0
  obtain ⟨p0, p1, p2, p3, p4, p5⟩ := hB0.cli.cells
  have d1 : decide (8000 < nm.size) = true := by simpa using h1
  have d1' : decide ((8000 : Int) < (nm.size : Int)) = true := by simpa using (show (8000 : Int) < (nm.size : Int) by omega)
  unfold CliV.agg at *
  clear hr hB0 hA hC hz
  go_enter Tryz.func18, Tryz.ntmps18
  go_wp2_with (first | (go_at_call 39; (refine (HIL.out _ _).mono ?_); rintro e w9 ⟨rfl, hb9⟩; have HB9 := hide (HB0.out.step hb9); clear p0 p1 p2 p3 p4 p5 hb9; obtain ⟨r0, r1, r2, r3, r4, r5, r6, r7, r8, r9, r10, r11, r12, r13, r14, fr⟩ := fif HB9.out.res) | fail)
  refine bodyPost_ret (v := .agg #[.int .i64 0, .int .i64 0, .slice none 0 0, .int .i64 0, .slice none 0 0, .int .i64 0, .int .i64 0, .int .i64 0, .int .i64 0, .int .i64 0, .int .i64 0, .string ⟨#[]⟩, .string ⟨#[]⟩, .int .i64 0, .int .i64 2]) (by simp [results, Tryz.results18, go_sem, r0, r1, r2, r3, r4, r5, r6, r7, r8, r9, r10, r11, r12, r13, r14]) rfl (STold.ill (below15 HB9.out.cli.2 (by omega) _ _ _ _ _ _ _ _ _ _ _ _ _ _ _))
set_option maxRecDepth 100000 in
set_option maxHeartbeats 1000000 in
theorem sst_size2 (c : CliV) (la oa : Option Addr) (lc oc : Nat) (x : Int) (nm vl : ByteArray) (w : World) (hz : CSz maxLen c) (hA : OpsAt w la c.log) (hC : OpsAt w oa c.out) (hnm : nm.size ≤ maxLen) (hvl : vl.size ≤ maxLen) (h0 : ¬ 8000 < nm.size) (h1 : 8000 < vl.size) : Calls Tryz.prog 18 #[c.agg la lc oa oc, .int .i64 x, .string nm, .string vl] w fun e w' => STold w w' e (OutV.ill 2) := by
  have hr := fun W (hW : Below w.heap.size w W) => sRight_any c la oa lc oc W hz (hA.stays hW) (hC.stays hW)
  have HIL := hide sIll_any
  have hB0 := FB.start w c la lc oa oc
  have HB0 := hide hB0
  obtain ⟨p0, p1, p2, p3, p4, p5⟩ := hB0.cli.cells
  have d0 : decide (8000 < nm.size) = false := by simpa using h0
  have d0' : decide ((8000 : Int) < (nm.size : Int)) = false := by simpa using (show ¬ (8000 : Int) < (nm.size : Int) by omega)
  have d1 : decide (8000 < vl.size) = true := by simpa using h1
  have d1' : decide ((8000 : Int) < (vl.size : Int)) = true := by simpa using (show (8000 : Int) < (vl.size : Int) by omega)
  unfold CliV.agg at *
  clear hr hB0 hA hC hz
  go_enter Tryz.func18, Tryz.ntmps18
  go_wp2_with (first | (go_at_call 39; (refine (HIL.out _ _).mono ?_); rintro e w9 ⟨rfl, hb9⟩; have HB9 := hide (HB0.out.step hb9); clear p0 p1 p2 p3 p4 p5 hb9; obtain ⟨r0, r1, r2, r3, r4, r5, r6, r7, r8, r9, r10, r11, r12, r13, r14, fr⟩ := fif HB9.out.res) | fail)
  refine bodyPost_ret (v := .agg #[.int .i64 0, .int .i64 0, .slice none 0 0, .int .i64 0, .slice none 0 0, .int .i64 0, .int .i64 0, .int .i64 0, .int .i64 0, .int .i64 0, .int .i64 0, .string ⟨#[]⟩, .string ⟨#[]⟩, .int .i64 0, .int .i64 2]) (by simp [results, Tryz.results18, go_sem, r0, r1, r2, r3, r4, r5, r6, r7, r8, r9, r10, r11, r12, r13, r14]) rfl (STold.ill (below15 HB9.out.cli.2 (by omega) _ _ _ _ _ _ _ _ _ _ _ _ _ _ _))
set_option maxRecDepth 100000 in
set_option maxHeartbeats 1000000 in
theorem sst_form (c : CliV) (la oa : Option Addr) (lc oc : Nat) (x : Int) (nm vl : ByteArray) (w : World) (hz : CSz maxLen c) (hA : OpsAt w la c.log) (hC : OpsAt w oa c.out) (hnm : nm.size ≤ maxLen) (hvl : vl.size ≤ maxLen) (h0 : ¬ 8000 < nm.size) (h00 : ¬ 8000 < vl.size) (hcr : cliRight c = false) : Calls Tryz.prog 18 #[c.agg la lc oa oc, .int .i64 x, .string nm, .string vl] w fun e w' => STold w w' e (OutV.ill 1) := by
  have hr := fun W (hW : Below w.heap.size w W) => sRight_any c la oa lc oc W hz (hA.stays hW) (hC.stays hW)
  have HIL := hide sIll_any
  have hB0 := FB.start w c la lc oa oc
  have HB0 := hide hB0
  obtain ⟨p0, p1, p2, p3, p4, p5⟩ := hB0.cli.cells
  have d0 : decide (8000 < nm.size) = false := by simpa using h0
  have d0' : decide ((8000 : Int) < (nm.size : Int)) = false := by simpa using (show ¬ (8000 : Int) < (nm.size : Int) by omega)
  have e0 : decide (8000 < vl.size) = false := by simpa using h00
  have e0' : decide ((8000 : Int) < (vl.size : Int)) = false := by simpa using (show ¬ (8000 : Int) < (vl.size : Int) by omega)
  rw [hcr] at hr
  have HR := hide hr
  unfold CliV.agg at *
  clear hr hB0 hA hC hz hcr
  go_enter Tryz.func18, Tryz.ntmps18
  go_wp2_with (first | (go_at_call 40; (refine (HR.out _ HB0.out.cli.2).mono ?_); rintro e w1 ⟨rfl, hb1⟩; have HB1 := hide (HB0.out.step hb1); clear p0 p1 p2 p3 p4 p5 hb1; obtain ⟨p0, p1, p2, p3, p4, p5⟩ := HB1.out.cli.cells) | (go_at_call 39; (refine (HIL.out _ _).mono ?_); rintro e w9 ⟨rfl, hb9⟩; have HB9 := hide (HB1.out.step hb9); clear p0 p1 p2 p3 p4 p5 hb9; obtain ⟨r0, r1, r2, r3, r4, r5, r6, r7, r8, r9, r10, r11, r12, r13, r14, fr⟩ := fif HB9.out.res) | fail)
  refine bodyPost_ret (v := .agg #[.int .i64 0, .int .i64 0, .slice none 0 0, .int .i64 0, .slice none 0 0, .int .i64 0, .int .i64 0, .int .i64 0, .int .i64 0, .int .i64 0, .int .i64 0, .string ⟨#[]⟩, .string ⟨#[]⟩, .int .i64 0, .int .i64 1]) (by simp [results, Tryz.results18, go_sem, r0, r1, r2, r3, r4, r5, r6, r7, r8, r9, r10, r11, r12, r13, r14]) rfl (STold.ill (below15 HB9.out.cli.2 (by omega) _ _ _ _ _ _ _ _ _ _ _ _ _ _ _))
set_option maxRecDepth 100000 in
set_option maxHeartbeats 1000000 in
theorem sst_time (c : CliV) (la oa : Option Addr) (lc oc : Nat) (x : Int) (nm vl : ByteArray) (w : World) (hz : CSz maxLen c) (hA : OpsAt w la c.log) (hC : OpsAt w oa c.out) (hnm : nm.size ≤ maxLen) (hvl : vl.size ≤ maxLen) (h0 : ¬ 8000 < nm.size) (h00 : ¬ 8000 < vl.size) (hcr : cliRight c = true) (ht : 1000000 ≤ c.clock) : Calls Tryz.prog 18 #[c.agg la lc oa oc, .int .i64 x, .string nm, .string vl] w fun e w' => STold w w' e (OutV.ill 9) := by
  have hr := fun W (hW : Below w.heap.size w W) => sRight_any c la oa lc oc W hz (hA.stays hW) (hC.stays hW)
  have HIL := hide sIll_any
  have hB0 := FB.start w c la lc oa oc
  have HB0 := hide hB0
  obtain ⟨p0, p1, p2, p3, p4, p5⟩ := hB0.cli.cells
  have d0 : decide (8000 < nm.size) = false := by simpa using h0
  have d0' : decide ((8000 : Int) < (nm.size : Int)) = false := by simpa using (show ¬ (8000 : Int) < (nm.size : Int) by omega)
  have e0 : decide (8000 < vl.size) = false := by simpa using h00
  have e0' : decide ((8000 : Int) < (vl.size : Int)) = false := by simpa using (show ¬ (8000 : Int) < (vl.size : Int) by omega)
  rw [hcr] at hr
  have HR := hide hr
  have dt : decide (1000000 ≤ c.clock) = true := by simpa using ht
  unfold CliV.agg at *
  clear hr hB0 hA hC hz hcr ht
  go_enter Tryz.func18, Tryz.ntmps18
  go_wp2_with (first | (go_at_call 40; (refine (HR.out _ HB0.out.cli.2).mono ?_); rintro e w1 ⟨rfl, hb1⟩; have HB1 := hide (HB0.out.step hb1); clear p0 p1 p2 p3 p4 p5 hb1; obtain ⟨p0, p1, p2, p3, p4, p5⟩ := HB1.out.cli.cells) | (go_at_call 39; (refine (HIL.out _ _).mono ?_); rintro e w9 ⟨rfl, hb9⟩; have HB9 := hide (HB1.out.step hb9); clear p0 p1 p2 p3 p4 p5 hb9; obtain ⟨r0, r1, r2, r3, r4, r5, r6, r7, r8, r9, r10, r11, r12, r13, r14, fr⟩ := fif HB9.out.res) | fail)
  refine bodyPost_ret (v := .agg #[.int .i64 0, .int .i64 0, .slice none 0 0, .int .i64 0, .slice none 0 0, .int .i64 0, .int .i64 0, .int .i64 0, .int .i64 0, .int .i64 0, .int .i64 0, .string ⟨#[]⟩, .string ⟨#[]⟩, .int .i64 0, .int .i64 9]) (by simp [results, Tryz.results18, go_sem, r0, r1, r2, r3, r4, r5, r6, r7, r8, r9, r10, r11, r12, r13, r14]) rfl (STold.ill (below15 HB9.out.cli.2 (by omega) _ _ _ _ _ _ _ _ _ _ _ _ _ _ _))
set_option maxRecDepth 100000 in
set_option maxHeartbeats 1000000 in
theorem sst_wrong (c : CliV) (la oa : Option Addr) (lc oc : Nat) (x : Int) (nm vl : ByteArray) (w : World) (hz : CSz maxLen c) (hA : OpsAt w la c.log) (hC : OpsAt w oa c.out) (hnm : nm.size ≤ maxLen) (hvl : vl.size ≤ maxLen) (h0 : ¬ 8000 < nm.size) (h00 : ¬ 8000 < vl.size) (hcr : cliRight c = true) (ht : ¬ 1000000 ≤ c.clock) (hop : opRight ⟨c.clock + 1, c.repl, 2, x, 0, nm, vl⟩ = false) : Calls Tryz.prog 18 #[c.agg la lc oa oc, .int .i64 x, .string nm, .string vl] w fun e w' => STold w w' e (OutV.ill 1) := by
  have hr := fun W (hW : Below w.heap.size w W) => sRight_any c la oa lc oc W hz (hA.stays hW) (hC.stays hW)
  have HIL := hide sIll_any
  have hB0 := FB.start w c la lc oa oc
  have HB0 := hide hB0
  obtain ⟨p0, p1, p2, p3, p4, p5⟩ := hB0.cli.cells
  have d0 : decide (8000 < nm.size) = false := by simpa using h0
  have d0' : decide ((8000 : Int) < (nm.size : Int)) = false := by simpa using (show ¬ (8000 : Int) < (nm.size : Int) by omega)
  have e0 : decide (8000 < vl.size) = false := by simpa using h00
  have e0' : decide ((8000 : Int) < (vl.size : Int)) = false := by simpa using (show ¬ (8000 : Int) < (vl.size : Int) by omega)
  obtain ⟨T9, hT9⟩ : ∃ T9, T9 = c.clock + 1 := ⟨_, rfl⟩
  have hR := (cliR_iff c).1 hcr
  have hlg := log_yes hR.log
  have hl150 := hR.log.2.1
  have ho30 := hR.few
  have hk0 := hR.clock
  have HT9 := hide hT9
  have hwk : wrap64 (c.clock + 1) = T9 := by unfold wrap64; omega
  have hwk2 : IntKind.i64.wrap (c.clock + 1) = T9 := by rw [IntKind.wrap_i64]; omega
  have dt : decide (1000000 ≤ c.clock) = false := by simpa using ht
  have hso := fun W => sOp_any ⟨T9, c.repl, 2, x, 0, nm, vl⟩ W hnm hvl
  dsimp only [OpV.agg] at hso
  rw [hcr] at hr
  rw [← hT9] at hop
  rw [hop] at hso
  have HR := hide hr
  have HO := hide hso
  unfold CliV.agg at *
  clear hr hso hB0 hA hC hz hcr ht hop hT9 hR hlg hl150 ho30 hk0
  go_enter Tryz.func18, Tryz.ntmps18
  go_wp2_with (first | (go_at_call 40; (refine (HR.out _ HB0.out.cli.2).mono ?_); rintro e w1 ⟨rfl, hb1⟩; have HB1 := hide (HB0.out.step hb1); clear p0 p1 p2 p3 p4 p5 hb1; obtain ⟨p0, p1, p2, p3, p4, p5⟩ := HB1.out.cli.cells) | (go_at_call 41; (refine (HO.out _).mono ?_); rintro e w2 ⟨rfl, hb2⟩; have hal := (Below.refl w1.heap.size w1).alloc (Nat.le_refl _) (.cells #[.int .i64 T9, .int .i64 c.repl, .int .i64 2, .int .i64 x, .int .i64 0, .string nm, .string vl] 30); have HB2 := hide ((HB1.out.step hal).step hb2); have HP2 := hide ((hb2.block w1.heap.size (by simp)).trans (heap_alloc_new w1 (.cells #[.int .i64 T9, .int .i64 c.repl, .int .i64 2, .int .i64 x, .int .i64 0, .string nm, .string vl] 30))); clear p0 p1 p2 p3 p4 p5 hb2 hal; obtain ⟨p0, p1, p2, p3, p4, p5⟩ := HB2.out.cli.cells; obtain ⟨q0, q1, q2, q3, q4, q5, q6⟩ := op7c HP2.out) | (go_at_call 39; (refine (HIL.out _ _).mono ?_); rintro e w9 ⟨rfl, hb9⟩; have HB9 := hide (HB2.out.step hb9); clear p0 p1 p2 p3 p4 p5 q0 q1 q2 q3 q4 q5 q6 hb9; obtain ⟨r0, r1, r2, r3, r4, r5, r6, r7, r8, r9, r10, r11, r12, r13, r14, fr⟩ := fif HB9.out.res) | fail)
  refine bodyPost_ret (v := .agg #[.int .i64 0, .int .i64 0, .slice none 0 0, .int .i64 0, .slice none 0 0, .int .i64 0, .int .i64 0, .int .i64 0, .int .i64 0, .int .i64 0, .int .i64 0, .string ⟨#[]⟩, .string ⟨#[]⟩, .int .i64 0, .int .i64 1]) (by simp [results, Tryz.results18, go_sem, r0, r1, r2, r3, r4, r5, r6, r7, r8, r9, r10, r11, r12, r13, r14]) rfl (STold.ill (below15 HB9.out.cli.2 (by omega) _ _ _ _ _ _ _ _ _ _ _ _ _ _ _))
set_option maxRecDepth 100000 in
set_option maxHeartbeats 1000000 in
theorem sst_place (c : CliV) (la oa : Option Addr) (lc oc : Nat) (x : Int) (nm vl : ByteArray) (w : World) (hz : CSz maxLen c) (hA : OpsAt w la c.log) (hC : OpsAt w oa c.out) (hnm : nm.size ≤ maxLen) (hvl : vl.size ≤ maxLen) (h0 : ¬ 8000 < nm.size) (h00 : ¬ 8000 < vl.size) (hcr : cliRight c = true) (ht : ¬ 1000000 ≤ c.clock) (hop : opRight ⟨c.clock + 1, c.repl, 2, x, 0, nm, vl⟩ = true)  (hcd : (nodOf (tof c.log) x).isSome = false) : Calls Tryz.prog 18 #[c.agg la lc oa oc, .int .i64 x, .string nm, .string vl] w fun e w' => STold w w' e (OutV.ill 6) := by
  have hr := fun W (hW : Below w.heap.size w W) => sRight_any c la oa lc oc W hz (hA.stays hW) (hC.stays hW)
  have HIL := hide sIll_any
  have hB0 := FB.start w c la lc oa oc
  have HB0 := hide hB0
  obtain ⟨p0, p1, p2, p3, p4, p5⟩ := hB0.cli.cells
  have d0 : decide (8000 < nm.size) = false := by simpa using h0
  have d0' : decide ((8000 : Int) < (nm.size : Int)) = false := by simpa using (show ¬ (8000 : Int) < (nm.size : Int) by omega)
  have e0 : decide (8000 < vl.size) = false := by simpa using h00
  have e0' : decide ((8000 : Int) < (vl.size : Int)) = false := by simpa using (show ¬ (8000 : Int) < (vl.size : Int) by omega)
  obtain ⟨T9, hT9⟩ : ∃ T9, T9 = c.clock + 1 := ⟨_, rfl⟩
  have hR := (cliR_iff c).1 hcr
  have hlg := log_yes hR.log
  have hl150 := hR.log.2.1
  have ho30 := hR.few
  have hk0 := hR.clock
  have HT9 := hide hT9
  have hwk : wrap64 (c.clock + 1) = T9 := by unfold wrap64; omega
  have hwk2 : IntKind.i64.wrap (c.clock + 1) = T9 := by rw [IntKind.wrap_i64]; omega
  have dt : decide (1000000 ≤ c.clock) = false := by simpa using ht
  have hso := fun W => sOp_any ⟨T9, c.repl, 2, x, 0, nm, vl⟩ W hnm hvl
  dsimp only [OpV.agg] at hso
  rw [hcr] at hr
  rw [← hT9] at hop
  rw [hop] at hso
  have hof := fun W (hW : Below w.heap.size w W) => sOf_any c.log la lc W hl150 (hA.stays hW) hR.log.1
  have HOF := hide hof
  have HLg := hide hlg
  have HCD := hide hcd
  have HR := hide hr
  have HO := hide hso
  unfold CliV.agg at *
  clear hr hso hof hB0 hA hC hz hcr ht hop hT9 hR hlg hl150 ho30 hk0 hcd
  go_enter Tryz.func18, Tryz.ntmps18
  go_wp2_with (first | (go_at_call 40; (refine (HR.out _ HB0.out.cli.2).mono ?_); rintro e w1 ⟨rfl, hb1⟩; have HB1 := hide (HB0.out.step hb1); clear p0 p1 p2 p3 p4 p5 hb1; obtain ⟨p0, p1, p2, p3, p4, p5⟩ := HB1.out.cli.cells) | (go_at_call 41; (refine (HO.out _).mono ?_); rintro e w2 ⟨rfl, hb2⟩; have hal := (Below.refl w1.heap.size w1).alloc (Nat.le_refl _) (.cells #[.int .i64 T9, .int .i64 c.repl, .int .i64 2, .int .i64 x, .int .i64 0, .string nm, .string vl] 30); have HB2 := hide ((HB1.out.step hal).step hb2); have HP2 := hide ((hb2.block w1.heap.size (by simp)).trans (heap_alloc_new w1 (.cells #[.int .i64 T9, .int .i64 c.repl, .int .i64 2, .int .i64 x, .int .i64 0, .string nm, .string vl] 30))); clear p0 p1 p2 p3 p4 p5 hb2 hal; obtain ⟨p0, p1, p2, p3, p4, p5⟩ := HB2.out.cli.cells; obtain ⟨q0, q1, q2, q3, q4, q5, q6⟩ := op7c HP2.out) | (go_at_call 43; (refine (HOF.out _ HB2.out.cli.2).mono ?_); rintro e w3 ⟨v, dd, rfl, hts, hdb, hb3⟩; obtain ⟨ao1, c1, rfl, hc1, _⟩ := owns_atN hts.row; have HB3 := hide (HB2.out.step hb3); have HTn := hide hts.nodesAt; have HDb := hide hdb; have HTR := hide (tree_of_tof HLg.out hdb); have HP3 := hide ((hb3.block _ (Array.getElem?_eq_some_iff.1 HP2.out).1).trans HP2.out); clear p0 p1 p2 p3 p4 p5 q0 q1 q2 q3 q4 q5 q6 hts hdb hb3 hc1; obtain ⟨p0, p1, p2, p3, p4, p5⟩ := HB3.out.cli.cells; obtain ⟨q0, q1, q2, q3, q4, q5, q6⟩ := op7c HP3.out) | (go_at_call 52; have hmy := sAt_any dd ao1 c1 x w3 (by have := HTR.out.1; unfold maxLen; omega) HTn.out; have hsg : decide (atI dd x < 0) = _ := (atI_neg dd x).trans (congrArg not ((nodOf_alike HDb.out x).trans HCD.out)); (refine hmy.mono ?_); rintro e w4 ⟨rfl, hb4⟩; have HB4 := hide (HB3.out.step hb4); have HP4 := hide ((hb4.block _ (Array.getElem?_eq_some_iff.1 HP3.out).1).trans HP3.out); simp only [Bool.not_false] at hsg; clear p0 p1 p2 p3 p4 p5 q0 q1 q2 q3 q4 q5 q6 hb4 hmy; obtain ⟨p0, p1, p2, p3, p4, p5⟩ := HB4.out.cli.cells; obtain ⟨q0, q1, q2, q3, q4, q5, q6⟩ := op7c HP4.out) | (go_at_call 39; (refine (HIL.out _ _).mono ?_); rintro e w9 ⟨rfl, hb9⟩; have HB9 := hide (HB4.out.step hb9); clear p0 p1 p2 p3 p4 p5 q0 q1 q2 q3 q4 q5 q6 hb9; obtain ⟨r0, r1, r2, r3, r4, r5, r6, r7, r8, r9, r10, r11, r12, r13, r14, fr⟩ := fif HB9.out.res) | fail)
  refine bodyPost_ret (v := .agg #[.int .i64 0, .int .i64 0, .slice none 0 0, .int .i64 0, .slice none 0 0, .int .i64 0, .int .i64 0, .int .i64 0, .int .i64 0, .int .i64 0, .int .i64 0, .string ⟨#[]⟩, .string ⟨#[]⟩, .int .i64 0, .int .i64 6]) (by simp [results, Tryz.results18, go_sem, r0, r1, r2, r3, r4, r5, r6, r7, r8, r9, r10, r11, r12, r13, r14]) rfl (STold.ill (below15 HB9.out.cli.2 (by omega) _ _ _ _ _ _ _ _ _ _ _ _ _ _ _))
set_option maxRecDepth 100000 in
set_option maxHeartbeats 1000000 in
theorem sst_full (c : CliV) (la oa : Option Addr) (lc oc : Nat) (x : Int) (nm vl : ByteArray) (w : World) (hz : CSz maxLen c) (hA : OpsAt w la c.log) (hC : OpsAt w oa c.out) (hnm : nm.size ≤ maxLen) (hvl : vl.size ≤ maxLen) (h0 : ¬ 8000 < nm.size) (h00 : ¬ 8000 < vl.size) (hcr : cliRight c = true) (ht : ¬ 1000000 ≤ c.clock) (hop : opRight ⟨c.clock + 1, c.repl, 2, x, 0, nm, vl⟩ = true)  (hcd : (nodOf (tof c.log) x).isSome = true) (hfu : (decide (30 ≤ c.out.length) || decide (150 ≤ c.log.length)) = true) : Calls Tryz.prog 18 #[c.agg la lc oa oc, .int .i64 x, .string nm, .string vl] w fun e w' => STold w w' e (OutV.ill 9) := by
  have hr := fun W (hW : Below w.heap.size w W) => sRight_any c la oa lc oc W hz (hA.stays hW) (hC.stays hW)
  have HIL := hide sIll_any
  have hB0 := FB.start w c la lc oa oc
  have HB0 := hide hB0
  obtain ⟨p0, p1, p2, p3, p4, p5⟩ := hB0.cli.cells
  have d0 : decide (8000 < nm.size) = false := by simpa using h0
  have d0' : decide ((8000 : Int) < (nm.size : Int)) = false := by simpa using (show ¬ (8000 : Int) < (nm.size : Int) by omega)
  have e0 : decide (8000 < vl.size) = false := by simpa using h00
  have e0' : decide ((8000 : Int) < (vl.size : Int)) = false := by simpa using (show ¬ (8000 : Int) < (vl.size : Int) by omega)
  obtain ⟨T9, hT9⟩ : ∃ T9, T9 = c.clock + 1 := ⟨_, rfl⟩
  have hR := (cliR_iff c).1 hcr
  have hlg := log_yes hR.log
  have hl150 := hR.log.2.1
  have ho30 := hR.few
  have hk0 := hR.clock
  have HT9 := hide hT9
  have hwk : wrap64 (c.clock + 1) = T9 := by unfold wrap64; omega
  have hwk2 : IntKind.i64.wrap (c.clock + 1) = T9 := by rw [IntKind.wrap_i64]; omega
  have dt : decide (1000000 ≤ c.clock) = false := by simpa using ht
  have hso := fun W => sOp_any ⟨T9, c.repl, 2, x, 0, nm, vl⟩ W hnm hvl
  dsimp only [OpV.agg] at hso
  rw [hcr] at hr
  rw [← hT9] at hop
  rw [hop] at hso
  have hof := fun W (hW : Below w.heap.size w W) => sOf_any c.log la lc W hl150 (hA.stays hW) hR.log.1
  have HOF := hide hof
  have HLg := hide hlg
  have HCD := hide hcd
  have hfl := fun W => sFull_any c la oa lc oc W _ hfu hl150 ho30
  have HFu := hide hfl
  have HR := hide hr
  have HO := hide hso
  unfold CliV.agg at *
  clear hr hso hof hfl hB0 hA hC hz hcr ht hop hT9 hR hlg hl150 ho30 hk0 hfu hcd
  go_enter Tryz.func18, Tryz.ntmps18
  go_wp2_with (first | (go_at_call 40; (refine (HR.out _ HB0.out.cli.2).mono ?_); rintro e w1 ⟨rfl, hb1⟩; have HB1 := hide (HB0.out.step hb1); clear p0 p1 p2 p3 p4 p5 hb1; obtain ⟨p0, p1, p2, p3, p4, p5⟩ := HB1.out.cli.cells) | (go_at_call 41; (refine (HO.out _).mono ?_); rintro e w2 ⟨rfl, hb2⟩; have hal := (Below.refl w1.heap.size w1).alloc (Nat.le_refl _) (.cells #[.int .i64 T9, .int .i64 c.repl, .int .i64 2, .int .i64 x, .int .i64 0, .string nm, .string vl] 30); have HB2 := hide ((HB1.out.step hal).step hb2); have HP2 := hide ((hb2.block w1.heap.size (by simp)).trans (heap_alloc_new w1 (.cells #[.int .i64 T9, .int .i64 c.repl, .int .i64 2, .int .i64 x, .int .i64 0, .string nm, .string vl] 30))); clear p0 p1 p2 p3 p4 p5 hb2 hal; obtain ⟨p0, p1, p2, p3, p4, p5⟩ := HB2.out.cli.cells; obtain ⟨q0, q1, q2, q3, q4, q5, q6⟩ := op7c HP2.out) | (go_at_call 43; (refine (HOF.out _ HB2.out.cli.2).mono ?_); rintro e w3 ⟨v, dd, rfl, hts, hdb, hb3⟩; obtain ⟨ao1, c1, rfl, hc1, _⟩ := owns_atN hts.row; have HB3 := hide (HB2.out.step hb3); have HTn := hide hts.nodesAt; have HDb := hide hdb; have HTR := hide (tree_of_tof HLg.out hdb); have HP3 := hide ((hb3.block _ (Array.getElem?_eq_some_iff.1 HP2.out).1).trans HP2.out); clear p0 p1 p2 p3 p4 p5 q0 q1 q2 q3 q4 q5 q6 hts hdb hb3 hc1; obtain ⟨p0, p1, p2, p3, p4, p5⟩ := HB3.out.cli.cells; obtain ⟨q0, q1, q2, q3, q4, q5, q6⟩ := op7c HP3.out) | (go_at_call 52; have hmy := sAt_any dd ao1 c1 x w3 (by have := HTR.out.1; unfold maxLen; omega) HTn.out; have hsg : decide (atI dd x < 0) = _ := (atI_neg dd x).trans (congrArg not ((nodOf_alike HDb.out x).trans HCD.out)); (refine hmy.mono ?_); rintro e w4 ⟨rfl, hb4⟩; have HB4 := hide (HB3.out.step hb4); have HP4 := hide ((hb4.block _ (Array.getElem?_eq_some_iff.1 HP3.out).1).trans HP3.out); simp only [Bool.not_true] at hsg; clear p0 p1 p2 p3 p4 p5 q0 q1 q2 q3 q4 q5 q6 hb4 hmy; obtain ⟨p0, p1, p2, p3, p4, p5⟩ := HB4.out.cli.cells; obtain ⟨q0, q1, q2, q3, q4, q5, q6⟩ := op7c HP4.out) | (go_at_call 44; (refine (HFu.out _).mono ?_); rintro e w5 ⟨rfl, hb5⟩; have HB5 := hide (HB4.out.step hb5); have HP5 := hide ((hb5.block _ (Array.getElem?_eq_some_iff.1 HP4.out).1).trans HP4.out); clear p0 p1 p2 p3 p4 p5 q0 q1 q2 q3 q4 q5 q6 hb5; obtain ⟨p0, p1, p2, p3, p4, p5⟩ := HB5.out.cli.cells; obtain ⟨q0, q1, q2, q3, q4, q5, q6⟩ := op7c HP5.out) | (go_at_call 39; (refine (HIL.out _ _).mono ?_); rintro e w9 ⟨rfl, hb9⟩; have HB9 := hide (HB5.out.step hb9); clear p0 p1 p2 p3 p4 p5 q0 q1 q2 q3 q4 q5 q6 hb9; obtain ⟨r0, r1, r2, r3, r4, r5, r6, r7, r8, r9, r10, r11, r12, r13, r14, fr⟩ := fif HB9.out.res) | fail)
  refine bodyPost_ret (v := .agg #[.int .i64 0, .int .i64 0, .slice none 0 0, .int .i64 0, .slice none 0 0, .int .i64 0, .int .i64 0, .int .i64 0, .int .i64 0, .int .i64 0, .int .i64 0, .string ⟨#[]⟩, .string ⟨#[]⟩, .int .i64 0, .int .i64 9]) (by simp [results, Tryz.results18, go_sem, r0, r1, r2, r3, r4, r5, r6, r7, r8, r9, r10, r11, r12, r13, r14]) rfl (STold.ill (below15 HB9.out.cli.2 (by omega) _ _ _ _ _ _ _ _ _ _ _ _ _ _ _))
end Go.Proofs.YtfkgmkcndchkjaaGreatDoor.OpR
namespace Go.Proofs.YtfkgmkcndchkjaaGreatDoor.OpR
open Go.ChangeShapes Go.WideShapes Go.ChangeAt Go.RowKit
set_option linter.unusedVariables false

set_option maxRecDepth 100000 in
set_option maxHeartbeats 1000000 in
theorem sst_ok (c : CliV) (la oa : Option Addr) (lc oc : Nat) (x : Int) (nm vl : ByteArray) (w : World) (hz : CSz maxLen c) (hA : OpsAt w la c.log) (hC : OpsAt w oa c.out) (hnm : nm.size ≤ maxLen) (hvl : vl.size ≤ maxLen) (h0 : ¬ 8000 < nm.size) (h00 : ¬ 8000 < vl.size) (hcr : cliRight c = true) (ht : ¬ 1000000 ≤ c.clock) (hop : opRight ⟨c.clock + 1, c.repl, 2, x, 0, nm, vl⟩ = true)  (hcd : (nodOf (tof c.log) x).isSome = true) (hfu : (decide (30 ≤ c.out.length) || decide (150 ≤ c.log.length)) = false) : Calls Tryz.prog 18 #[c.agg la lc oa oc, .int .i64 x, .string nm, .string vl] w fun e w' => STold w w' e ⟨putC c ⟨c.clock + 1, c.repl, 2, x, 0, nm, vl⟩, ⟨c.clock + 1, c.repl, 2, x, 0, nm, vl⟩, 0, 0⟩ := by
  have hr := fun W (hW : Below w.heap.size w W) => sRight_any c la oa lc oc W hz (hA.stays hW) (hC.stays hW)
  have HIL := hide sIll_any
  have hB0 := FB.start w c la lc oa oc
  have HB0 := hide hB0
  obtain ⟨p0, p1, p2, p3, p4, p5⟩ := hB0.cli.cells
  have d0 : decide (8000 < nm.size) = false := by simpa using h0
  have d0' : decide ((8000 : Int) < (nm.size : Int)) = false := by simpa using (show ¬ (8000 : Int) < (nm.size : Int) by omega)
  have e0 : decide (8000 < vl.size) = false := by simpa using h00
  have e0' : decide ((8000 : Int) < (vl.size : Int)) = false := by simpa using (show ¬ (8000 : Int) < (vl.size : Int) by omega)
  obtain ⟨T9, hT9⟩ : ∃ T9, T9 = c.clock + 1 := ⟨_, rfl⟩
  have hR := (cliR_iff c).1 hcr
  have hlg := log_yes hR.log
  have hl150 := hR.log.2.1
  have ho30 := hR.few
  have hk0 := hR.clock
  have HT9 := hide hT9
  have hwk : wrap64 (c.clock + 1) = T9 := by unfold wrap64; omega
  have hwk2 : IntKind.i64.wrap (c.clock + 1) = T9 := by rw [IntKind.wrap_i64]; omega
  have dt : decide (1000000 ≤ c.clock) = false := by simpa using ht
  have hso := fun W => sOp_any ⟨T9, c.repl, 2, x, 0, nm, vl⟩ W hnm hvl
  dsimp only [OpV.agg] at hso
  rw [hcr] at hr
  rw [← hT9] at hop
  rw [hop] at hso
  have hof := fun W (hW : Below w.heap.size w W) => sOf_any c.log la lc W hl150 (hA.stays hW) hR.log.1
  have HOF := hide hof
  have HLg := hide hlg
  have HCD := hide hcd
  have hfl := fun W => sFull_any c la oa lc oc W _ hfu hl150 ho30
  have HFu := hide hfl
  have hpu := fun W (hW : Below w.heap.size w W) => sPut_at c la oa lc oc ⟨T9, c.repl, 2, x, 0, nm, vl⟩ W (by simp at hfu; omega) (by simp at hfu; omega) (hA.stays hW) (hC.stays hW)
  dsimp only [OpV.agg] at hpu
  have HPu := hide hpu
  have HR := hide hr
  have HO := hide hso
  rw [← hT9]
  unfold CliV.agg at *
  clear hr hso hof hfl hpu hB0 hA hC hz hcr ht hop hT9 hR hlg hl150 ho30 hk0 hfu hcd
  go_enter Tryz.func18, Tryz.ntmps18
  go_wp2_with (first | (go_at_call 40; (refine (HR.out _ HB0.out.cli.2).mono ?_); rintro e w1 ⟨rfl, hb1⟩; have HB1 := hide (HB0.out.step hb1); clear p0 p1 p2 p3 p4 p5 hb1; obtain ⟨p0, p1, p2, p3, p4, p5⟩ := HB1.out.cli.cells) | (go_at_call 41; (refine (HO.out _).mono ?_); rintro e w2 ⟨rfl, hb2⟩; have hal := (Below.refl w1.heap.size w1).alloc (Nat.le_refl _) (.cells #[.int .i64 T9, .int .i64 c.repl, .int .i64 2, .int .i64 x, .int .i64 0, .string nm, .string vl] 30); have HB2 := hide ((HB1.out.step hal).step hb2); have HP2 := hide ((hb2.block w1.heap.size (by simp)).trans (heap_alloc_new w1 (.cells #[.int .i64 T9, .int .i64 c.repl, .int .i64 2, .int .i64 x, .int .i64 0, .string nm, .string vl] 30))); clear p0 p1 p2 p3 p4 p5 hb2 hal; obtain ⟨p0, p1, p2, p3, p4, p5⟩ := HB2.out.cli.cells; obtain ⟨q0, q1, q2, q3, q4, q5, q6⟩ := op7c HP2.out) | (go_at_call 43; (refine (HOF.out _ HB2.out.cli.2).mono ?_); rintro e w3 ⟨v, dd, rfl, hts, hdb, hb3⟩; obtain ⟨ao1, c1, rfl, hc1, _⟩ := owns_atN hts.row; have HB3 := hide (HB2.out.step hb3); have HTn := hide hts.nodesAt; have HDb := hide hdb; have HTR := hide (tree_of_tof HLg.out hdb); have HP3 := hide ((hb3.block _ (Array.getElem?_eq_some_iff.1 HP2.out).1).trans HP2.out); clear p0 p1 p2 p3 p4 p5 q0 q1 q2 q3 q4 q5 q6 hts hdb hb3 hc1; obtain ⟨p0, p1, p2, p3, p4, p5⟩ := HB3.out.cli.cells; obtain ⟨q0, q1, q2, q3, q4, q5, q6⟩ := op7c HP3.out) | (go_at_call 52; have hmy := sAt_any dd ao1 c1 x w3 (by have := HTR.out.1; unfold maxLen; omega) HTn.out; have hsg : decide (atI dd x < 0) = _ := (atI_neg dd x).trans (congrArg not ((nodOf_alike HDb.out x).trans HCD.out)); (refine hmy.mono ?_); rintro e w4 ⟨rfl, hb4⟩; have HB4 := hide (HB3.out.step hb4); have HP4 := hide ((hb4.block _ (Array.getElem?_eq_some_iff.1 HP3.out).1).trans HP3.out); simp only [Bool.not_true] at hsg; clear p0 p1 p2 p3 p4 p5 q0 q1 q2 q3 q4 q5 q6 hb4 hmy; obtain ⟨p0, p1, p2, p3, p4, p5⟩ := HB4.out.cli.cells; obtain ⟨q0, q1, q2, q3, q4, q5, q6⟩ := op7c HP4.out) | (go_at_call 44; (refine (HFu.out _).mono ?_); rintro e w5 ⟨rfl, hb5⟩; have HB5 := hide (HB4.out.step hb5); have HP5 := hide ((hb5.block _ (Array.getElem?_eq_some_iff.1 HP4.out).1).trans HP4.out); clear p0 p1 p2 p3 p4 p5 q0 q1 q2 q3 q4 q5 q6 hb5; obtain ⟨p0, p1, p2, p3, p4, p5⟩ := HB5.out.cli.cells; obtain ⟨q0, q1, q2, q3, q4, q5, q6⟩ := op7c HP5.out) | (go_at_call 45; (refine (HPu.out _ HB5.out.cli.2).mono ?_); intro e w6 h6; obtain ⟨xl, xlc, xo, xoc, he, hL, hO, hx1, hx2, hb6⟩ := h6; dsimp only [OutV.agg, putC] at he; subst he; have HB6 := hide (HB5.out.step hb6); have HX := hide (And.intro hL (And.intro hO (And.intro hx1 hx2))); clear p0 p1 p2 p3 p4 p5 q0 q1 q2 q3 q4 q5 q6 hL hO hx1 hx2 hb6; obtain ⟨r0, r1, r2, r3, r4, r5, r6, r7, r8, r9, r10, r11, r12, r13, r14, fr⟩ := fif HB6.out.res) | fail)
  obtain ⟨hL, hO, hl1, hl2⟩ := HX.out
  have hh := HB5.out.lt
  refine bodyPost_ret (v := .agg #[.int .i64 c.repl, .int .i64 T9, .slice xl (c.log ++ [(⟨T9, c.repl, 2, x, 0, nm, vl⟩ : OpV)]).length xlc, .int .i64 c.acked, .slice xo (c.out ++ [(⟨T9, c.repl, 2, x, 0, nm, vl⟩ : OpV)]).length xoc, .int .i64 c.got, .int .i64 T9, .int .i64 c.repl, .int .i64 2, .int .i64 x, .int .i64 0, .string nm, .string vl, .int .i64 0, .int .i64 0]) (by simp [results, Tryz.results18, go_sem, r0, r1, r2, r3, r4, r5, r6, r7, r8, r9, r10, r11, r12, r13, r14]) rfl ⟨xl, xlc, xo, xoc, rfl, OpsAt.set15 hL (fun a e => by have := hl1 a e; omega) _ _ _ _ _ _ _ _ _ _ _ _ _ _ _, OpsAt.set15 hO (fun a e => by have := hl2 a e; omega) _ _ _ _ _ _ _ _ _ _ _ _ _ _ _, below15 HB6.out.cli.2 (by omega) _ _ _ _ _ _ _ _ _ _ _ _ _ _ _⟩
end Go.Proofs.YtfkgmkcndchkjaaGreatDoor.OpR
namespace Go.Proofs.YtfkgmkcndchkjaaGreatDoor.OpR
open Go.ChangeShapes Go.WideShapes Go.ChangeAt Go.RowKit
set_option linter.unusedVariables false

def moveO (c : CliV) (x p : Int) (nm : ByteArray) : OpV := ⟨c.clock + 1, c.repl, 1, x, p, nm, ⟨#[]⟩⟩
def setO (c : CliV) (x : Int) (nm vl : ByteArray) : OpV := ⟨c.clock + 1, c.repl, 2, x, 0, nm, vl⟩
theorem full_b {c : CliV} {b : Bool} (h : (decide (30 ≤ c.out.length) || decide (150 ≤ c.log.length)) = b) : b = true ↔ (30 ≤ c.out.length ∨ 150 ≤ c.log.length) := by
  rw [← h]
  simp
theorem admit_mv (c : CliV) (x p : Int) (nm : ByteArray) : admit c.log (moveO c x p nm) = mayCode (tof c.log) x p := by
  unfold admit moveO
  rw [if_pos rfl]
theorem admit_st (c : CliV) (x : Int) (nm vl : ByteArray) : admit c.log (setO c x nm vl) = if (nodOf (tof c.log) x).isSome then 0 else 6 := by
  unfold admit setO
  rw [if_neg (show ¬ (2 : Int) = 1 by decide)]
/-- What spec.Move answers. -/
theorem sMoveC_any (c : CliV) (la oa : Option Addr) (lc oc : Nat) (x p : Int) (nm : ByteArray) (w : World) (hz : CSz maxLen c) (hA : OpsAt w la c.log) (hC : OpsAt w oa c.out) (hnm : nm.size ≤ maxLen) :
    Calls Tryz.prog 10 #[c.agg la lc oa oc, .int .i64 x, .int .i64 p, .string nm] w fun e w' => STold w w' e (actRes c (moveO c x p nm)) := by
  by_cases h0 : 8000 < nm.size
  · rw [act_size (o := moveO c x p nm) (.inl h0)]
    exact smv_size1 c la oa lc oc x p nm w hz hA hC hnm h0
  have hs : ¬ (8000 < (moveO c x p nm).name.size ∨ 8000 < (moveO c x p nm).value.size) := by
    rintro (h | h)
    · exact h0 h
    · exact absurd h (by show ¬ 8000 < (0 : Nat); omega)
  cases hcr : cliRight c
  · rw [act_form hs hcr]
    exact smv_form c la oa lc oc x p nm w hz hA hC hnm h0 hcr
  have hR := (cliR_iff c).1 hcr
  by_cases ht : 1000000 ≤ c.clock
  · rw [act_time hs hcr (by have := hR.clock.2; omega)]
    exact smv_time c la oa lc oc x p nm w hz hA hC hnm h0 hcr ht
  have ht' : ¬ c.clock = 1000000 := by omega
  cases hop : opRight (moveO c x p nm)
  · rw [act_wrong hs hcr ht' hop]
    exact smv_wrong c la oa lc oc x p nm w hz hA hC hnm h0 hcr ht hop
  obtain ⟨CD, hcd⟩ : ∃ CD, mayCode (tof c.log) x p = CD := ⟨_, rfl⟩
  have had := admit_mv c x p nm
  rw [hcd] at had
  by_cases hc0 : CD = 0
  · rw [hc0] at had
    cases hfu : (decide (30 ≤ c.out.length) || decide (150 ≤ c.log.length))
    · rw [act_put hs hcr ht' hop had (by rw [← full_b hfu]; decide)]
      exact smv_ok c la oa lc oc x p nm w hz hA hC hnm h0 hcr ht hop CD hcd hc0 hfu
    · rw [act_full hs hcr ht' hop had ((full_b hfu).1 rfl)]
      exact smv_full c la oa lc oc x p nm w hz hA hC hnm h0 hcr ht hop CD hcd hc0 hfu
  · rw [act_place hs hcr ht' hop (by rw [had]; exact hc0), had]
    exact smv_place c la oa lc oc x p nm w hz hA hC hnm h0 hcr ht hop CD hcd hc0
/-- What spec.Set answers. -/
theorem sSetC_any (c : CliV) (la oa : Option Addr) (lc oc : Nat) (x : Int) (nm vl : ByteArray) (w : World) (hz : CSz maxLen c) (hA : OpsAt w la c.log) (hC : OpsAt w oa c.out) (hnm : nm.size ≤ maxLen) (hvl : vl.size ≤ maxLen) :
    Calls Tryz.prog 18 #[c.agg la lc oa oc, .int .i64 x, .string nm, .string vl] w fun e w' => STold w w' e (actRes c (setO c x nm vl)) := by
  by_cases h0 : 8000 < nm.size
  · rw [act_size (o := setO c x nm vl) (.inl h0)]
    exact sst_size1 c la oa lc oc x nm vl w hz hA hC hnm hvl h0
  by_cases h00 : 8000 < vl.size
  · rw [act_size (o := setO c x nm vl) (.inr h00)]
    exact sst_size2 c la oa lc oc x nm vl w hz hA hC hnm hvl h0 h00
  have hs : ¬ (8000 < (setO c x nm vl).name.size ∨ 8000 < (setO c x nm vl).value.size) := by
    rintro (h | h)
    · exact h0 h
    · exact h00 h
  cases hcr : cliRight c
  · rw [act_form hs hcr]
    exact sst_form c la oa lc oc x nm vl w hz hA hC hnm hvl h0 h00 hcr
  have hR := (cliR_iff c).1 hcr
  by_cases ht : 1000000 ≤ c.clock
  · rw [act_time hs hcr (by have := hR.clock.2; omega)]
    exact sst_time c la oa lc oc x nm vl w hz hA hC hnm hvl h0 h00 hcr ht
  have ht' : ¬ c.clock = 1000000 := by omega
  cases hop : opRight (setO c x nm vl)
  · rw [act_wrong hs hcr ht' hop]
    exact sst_wrong c la oa lc oc x nm vl w hz hA hC hnm hvl h0 h00 hcr ht hop
  have had := admit_st c x nm vl
  cases hcd : (nodOf (tof c.log) x).isSome
  · rw [hcd] at had
    rw [act_place hs hcr ht' hop (by rw [had]; decide), had]
    exact sst_place c la oa lc oc x nm vl w hz hA hC hnm hvl h0 h00 hcr ht hop hcd
  · rw [hcd] at had
    cases hfu : (decide (30 ≤ c.out.length) || decide (150 ≤ c.log.length))
    · rw [act_put hs hcr ht' hop had (by rw [← full_b hfu]; decide)]
      exact sst_ok c la oa lc oc x nm vl w hz hA hC hnm hvl h0 h00 hcr ht hop hcd hfu
    · rw [act_full hs hcr ht' hop had ((full_b hfu).1 rfl)]
      exact sst_full c la oa lc oc x nm vl w hz hA hC hnm hvl h0 h00 hcr ht hop hcd hfu
end Go.Proofs.YtfkgmkcndchkjaaGreatDoor.OpR
