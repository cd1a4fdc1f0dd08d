/- Proves what impl's hand and impl.ClientRight tell, and both ClientNew. -/
import Derived.Test.YtfkgmkcndchkjaaGreatDoorCliJ
namespace Go.Proofs.YtfkgmkcndchkjaaGreatDoor.OpR
open Go.ChangeShapes Go.WideShapes Go.ChangeAt Go.RowKit
set_option linter.unusedVariables false

theorem right_cut {c : CliV} (h : logRight c.log = true) : cliRight c = (isIn c.repl 1 50 && ((decide (lastT c.log ≤ c.clock) && decide (c.clock ≤ 1000000)) && ((decide (c.out.length ≤ 30) && lastB (ownB c.log c.repl) c.out c.acked) && isIn c.got 0 1000000))) := by
  rw [← times_last (log_iff _ |>.1 h)]
  unfold cliRight
  rw [h]
  cases isIn c.repl 1 50 <;> cases isIn c.clock 0 1000000 <;> cases isIn c.got 0 1000000 <;> cases decide (c.out.length ≤ 30) <;> cases timesB c.log c.clock <;> simp
set_option maxRecDepth 100000 in
set_option maxHeartbeats 1000000 in
theorem iRight_any (c : CliV) (la oa : Option Addr) (lc oc : Nat) (w : World) (hz : CSz maxLen c) (hA : OpsAt w la c.log) (hC : OpsAt w oa c.out) :
    Calls Tryz.prog 75 #[c.hand la lc oa oc] w fun e w' => e = .returned (.bool (cliRight c)) ∧ Below w.heap.size w w' := by
  have hil := fun W (hW : Below w.heap.size w W) => isLog_any c.log la lc W hz.log (hA.stays hW) hz.lsz
  have hcr := fun W (hW : Below w.heap.size w W) => clockRight_any c la oa lc oc W hz.log (hA.stays hW)
  have hor := fun W (h150 : c.log.length ≤ 150) (hW : Below w.heap.size w W) => outRight_any c la oa lc oc W h150 hz.out (hA.stays hW) (hC.stays hW)
  have HB0 := hide (HandBox.new w c la lc oa oc)
  unfold CliV.hand at *
  obtain ⟨x1, h1⟩ : ∃ x, x = isIn c.repl 1 50 := ⟨_, rfl⟩
  obtain ⟨x2, h2⟩ : ∃ x, x = logRight c.log := ⟨_, rfl⟩
  obtain ⟨x3, h3⟩ : ∃ x, x = (decide (lastT c.log ≤ c.clock) && decide (c.clock ≤ 1000000)) := ⟨_, rfl⟩
  obtain ⟨x4, h4⟩ : ∃ x, x = (decide (c.out.length ≤ 30) && lastB (ownB c.log c.repl) c.out c.acked) := ⟨_, rfl⟩
  have hrp := fun w => repl_any c.repl w
  have h150 : x2 = true → c.log.length ≤ 150 := fun h => by rw [h2] at h; exact ((log_iff _).1 h).2.1
  have hcut : x2 = true → cliRight c = (x1 && (x3 && (x4 && isIn c.got 0 1000000))) := fun h => by rw [h2] at h; rw [right_cut h, ← h1, ← h3, ← h4]
  have hf1 : x1 = false → cliRight c = false := fun h => by rw [h1] at h; simp [cliRight, h]
  have hf2 : x2 = false → cliRight c = false := fun h => by rw [h2] at h; simp [cliRight, h]
  simp only [← h1] at hrp
  simp only [← h2] at hil
  simp only [← h3] at hcr
  simp only [← h4] at hor
  obtain ⟨R, hR⟩ : ∃ R, R = cliRight c := ⟨_, rfl⟩
  rw [← hR] at hcut hf1 hf2 ⊢
  have HIL := hide hil
  have HCR := hide hcr
  have HOR := hide hor
  have HRP := hide hrp
  have H150 := hide h150
  have HCut := hide hcut
  have HF1 := hide hf1
  have HF2 := hide hf2
  clear hil hcr hor hrp h150 hcut hf1 hf2 hR h1 h2 h3 h4 hA hC hz
  obtain ⟨p0, p1, p2, p3, p4, p5⟩ := HB0.out.cells
  cases x1
  · have HF := hide (HF1.out rfl)
    go_enter Tryz.func75, Tryz.ntmps75
    go_wp2_with (first | (go_at_call 55; refine (HRP.out _).mono ?_; rintro e w1 ⟨rfl, rfl⟩))
    all_goals (
      go_ret
      exact ⟨ret_bool (by rw [HF.out]), HB0.out.2⟩)
  cases x2
  · have HF := hide (HF2.out rfl)
    go_enter Tryz.func75, Tryz.ntmps75
    go_wp2_with (first | (go_at_call 55; refine (HRP.out _).mono ?_; rintro e w1 ⟨rfl, rfl⟩) | (go_at_call 101; (refine (HIL.out _ HB0.out.2).mono ?_); rintro e v1 ⟨rfl, hw1⟩; have HB1 := hide (HB0.out.step hw1); clear hw1; clear p0 p1 p2 p3 p4 p5; obtain ⟨p0, p1, p2, p3, p4, p5⟩ := HB1.out.cells))
    all_goals (
      go_ret
      exact ⟨ret_bool (by rw [HF.out]), HB1.out.2⟩)
  have HLl := hide (H150.out rfl)
  cases x3
  · have HF : Hid (R = false) := ⟨by rw [HCut.out rfl]; rfl⟩
    go_enter Tryz.func75, Tryz.ntmps75
    go_wp2_with (first | (go_at_call 55; refine (HRP.out _).mono ?_; rintro e w1 ⟨rfl, rfl⟩) | (go_at_call 101; (refine (HIL.out _ HB0.out.2).mono ?_); rintro e v1 ⟨rfl, hw1⟩; have HB1 := hide (HB0.out.step hw1); clear hw1; clear p0 p1 p2 p3 p4 p5; obtain ⟨p0, p1, p2, p3, p4, p5⟩ := HB1.out.cells) | (go_at_call 102; (refine (HCR.out _ HB1.out.2).mono ?_); rintro e v2 ⟨rfl, hw2⟩; have HB2 := hide (HB1.out.step hw2); clear hw2; clear p0 p1 p2 p3 p4 p5; obtain ⟨p0, p1, p2, p3, p4, p5⟩ := HB2.out.cells))
    all_goals (
      go_ret
      exact ⟨ret_bool (by rw [HF.out]), HB2.out.2⟩)
  cases x4
  · have HF : Hid (R = false) := ⟨by rw [HCut.out rfl]; rfl⟩
    go_enter Tryz.func75, Tryz.ntmps75
    go_wp2_with (first | (go_at_call 55; refine (HRP.out _).mono ?_; rintro e w1 ⟨rfl, rfl⟩) | (go_at_call 101; (refine (HIL.out _ HB0.out.2).mono ?_); rintro e v1 ⟨rfl, hw1⟩; have HB1 := hide (HB0.out.step hw1); clear hw1; clear p0 p1 p2 p3 p4 p5; obtain ⟨p0, p1, p2, p3, p4, p5⟩ := HB1.out.cells) | (go_at_call 102; (refine (HCR.out _ HB1.out.2).mono ?_); rintro e v2 ⟨rfl, hw2⟩; have HB2 := hide (HB1.out.step hw2); clear hw2; clear p0 p1 p2 p3 p4 p5; obtain ⟨p0, p1, p2, p3, p4, p5⟩ := HB2.out.cells) | (go_at_call 103; (refine (HOR.out _ HLl.out HB2.out.2).mono ?_); rintro e v3 ⟨rfl, hw3⟩; have HB3 := hide (HB2.out.step hw3); clear hw3; clear p0 p1 p2 p3 p4 p5; obtain ⟨p0, p1, p2, p3, p4, p5⟩ := HB3.out.cells))
    all_goals (
      go_ret
      exact ⟨ret_bool (by rw [HF.out]), HB3.out.2⟩)
  have HF : Hid (R = isIn c.got 0 1000000) := ⟨by rw [HCut.out rfl]; simp⟩
  by_cases hg : 0 ≤ c.got
  · have b5 : decide (0 ≤ c.got) = true := by simpa using hg
    have HG := hide hg
    clear hg
    go_enter Tryz.func75, Tryz.ntmps75
    go_wp2_with (first | (go_at_call 55; refine (HRP.out _).mono ?_; rintro e w1 ⟨rfl, rfl⟩) | (go_at_call 101; (refine (HIL.out _ HB0.out.2).mono ?_); rintro e v1 ⟨rfl, hw1⟩; have HB1 := hide (HB0.out.step hw1); clear hw1; clear p0 p1 p2 p3 p4 p5; obtain ⟨p0, p1, p2, p3, p4, p5⟩ := HB1.out.cells) | (go_at_call 102; (refine (HCR.out _ HB1.out.2).mono ?_); rintro e v2 ⟨rfl, hw2⟩; have HB2 := hide (HB1.out.step hw2); clear hw2; clear p0 p1 p2 p3 p4 p5; obtain ⟨p0, p1, p2, p3, p4, p5⟩ := HB2.out.cells) | (go_at_call 103; (refine (HOR.out _ HLl.out HB2.out.2).mono ?_); rintro e v3 ⟨rfl, hw3⟩; have HB3 := hide (HB2.out.step hw3); clear hw3; clear p0 p1 p2 p3 p4 p5; obtain ⟨p0, p1, p2, p3, p4, p5⟩ := HB3.out.cells))
    all_goals (
      go_ret
      exact ⟨ret_bool (by have := HG.out; rw [HF.out]; simp [isIn, this]), HB3.out.2⟩)
  · have b5 : decide (0 ≤ c.got) = false := by simpa using (show c.got < 0 by omega)
    have HG := hide hg
    clear hg
    go_enter Tryz.func75, Tryz.ntmps75
    go_wp2_with (first | (go_at_call 55; refine (HRP.out _).mono ?_; rintro e w1 ⟨rfl, rfl⟩) | (go_at_call 101; (refine (HIL.out _ HB0.out.2).mono ?_); rintro e v1 ⟨rfl, hw1⟩; have HB1 := hide (HB0.out.step hw1); clear hw1; clear p0 p1 p2 p3 p4 p5; obtain ⟨p0, p1, p2, p3, p4, p5⟩ := HB1.out.cells) | (go_at_call 102; (refine (HCR.out _ HB1.out.2).mono ?_); rintro e v2 ⟨rfl, hw2⟩; have HB2 := hide (HB1.out.step hw2); clear hw2; clear p0 p1 p2 p3 p4 p5; obtain ⟨p0, p1, p2, p3, p4, p5⟩ := HB2.out.cells) | (go_at_call 103; (refine (HOR.out _ HLl.out HB2.out.2).mono ?_); rintro e v3 ⟨rfl, hw3⟩; have HB3 := hide (HB2.out.step hw3); clear hw3; clear p0 p1 p2 p3 p4 p5; obtain ⟨p0, p1, p2, p3, p4, p5⟩ := HB3.out.cells))
    all_goals (
      go_ret
      exact ⟨ret_bool (by have := HG.out; rw [HF.out]; simp [isIn]; omega), HB3.out.2⟩)
end Go.Proofs.YtfkgmkcndchkjaaGreatDoor.OpR
