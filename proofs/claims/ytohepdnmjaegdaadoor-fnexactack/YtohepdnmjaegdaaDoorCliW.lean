/- Proves what spec.Ack answers. -/
import Derived.Test.YtohepdnmjaegdaaDoorCliV
import Derived.Test.YtohepdnmjaegdaaDoorCliQ
import Derived.Test.YtohepdnmjaegdaaDoorCliF
import Derived.Test.YtohepdnmjaegdaaDoorCameC
namespace Go.Proofs.YtohepdnmjaegdaaDoor.OpR
open Go.ChangeShapes Go.WideShapes Go.ChangeAt Go.RowKit
set_option linter.unusedVariables false

theorem cli_few {c : CliV} (h : cliRight c = true) : c.log.length ≤ 150 ∧ c.out.length ≤ 30 := by
  have hr := (cliR_iff c).1 h
  exact ⟨hr.log.2.1, hr.few⟩
set_option maxRecDepth 100000 in
set_option maxHeartbeats 1000000 in
theorem sAck_ok (c : CliV) (la oa : Option Addr) (lc oc : Nat) (many : Int) (w : World) (hz : CSz maxLen c) (hm : Num64 many) (hA : OpsAt w la c.log) (hC : OpsAt w oa c.out) (hcr : cliRight c = true) (hm1 : ¬ many < c.acked) (hm2 : ¬ c.acked + (c.out.length : Int) < many) :
    Calls Tryd.prog 18 #[c.agg la lc oa oc, .int .i64 many] w fun e w' => STold w w' e (ackRes c many) := by
  have hr := fun W (hW : Below w.heap.size w W) => sRight_any c la oa lc oc W hz (hA.stays hW) (hC.stays hW)
  have hil := sIll_any
  have hcp := fun W (hcr : cliRight c = true) (hW : Below w.heap.size w W) => sCopy_any c la oa lc oc W (cli_few hcr).1 (by have := (cli_few hcr).2; omega) (hA.stays hW) (hC.stays hW)
  have hB0 := FB.start w c la lc oa oc
  have HB0 := hide hB0
  have HR := hide hr
  have HIL := hide hil
  obtain ⟨p0, p1, p2, p3, p4, p5⟩ := hB0.cli.cells
  have hrange := fun h => (cliR_iff c).1 h
  unfold CliV.agg at *
  clear hr hil hA hC hz hB0
  have HCP := hide (fun W hW => hcp W hcr hW)
  have hR := hrange hcr
  have hfew := hR.few
  have hlow := hR.low
  have hack : c.acked ≤ 150 := by have := hR.acked; have := own_len c.log c.repl; have := hR.log.2.1; omega
  have hwr : wrap64 (c.acked + (c.out.length : Int)) = c.acked + (c.out.length : Int) := by unfold wrap64; omega
  have HCR := hide hcr
  simp only [hcr] at HR
  clear hrange hcp hR
  obtain ⟨k, hk⟩ : ∃ k : Nat, many - c.acked = (k : Int) := ⟨(many - c.acked).toNat, by omega⟩
  have HK := hide hk
  have HF : Hid (ackRes c many = ⟨⟨c.repl, c.clock, c.log, many, c.out.drop k, c.got⟩, OpV.zero, 0, 0⟩) := ⟨by
    have e : (many - c.acked).toNat = k := by omega
    simp only [ackRes, HCR.out]
    rw [if_neg (by decide), if_neg (by omega), e]⟩
  have hkl : k ≤ c.out.length := by omega
  have hwm : wrap64 (many - c.acked) = many - c.acked := by unfold wrap64; omega
  rw [HF.out]
  clear hcr hk
  go_enter Tryd.func18, Tryd.ntmps18
  go_wp2_with (first | (go_at_call 22; (refine (HR.out _ HB0.out.cli.2).mono ?_); rintro e w1 ⟨rfl, hb1⟩; have HB1 := hide (HB0.out.step hb1); clear p0 p1 p2 p3 p4 p5 hb1; obtain ⟨p0, p1, p2, p3, p4, p5⟩ := HB1.out.cli.cells) | (go_at_call 27; (refine (HCP.out _ HB1.out.cli.2).mono ?_); rintro e w2 ⟨v1, v2, rfl, ho1, ho2, hne, hb2⟩; obtain ⟨h1, c1, rfl, hh1, hlt1, hc1, _, hat1⟩ := ho1.at; obtain ⟨h2, c2, rfl, hh2, hlt2, hc2, _, hat2⟩ := ho2.at; have HAt1 := hide hat1; have HAt2 := hide hat2; have HH := hide (And.intro (And.intro hh1 hlt1) (And.intro hh2 hlt2)); have HB2 := hide (HB1.out.step hb2); clear p0 p1 p2 p3 p4 p5 hb2; obtain ⟨p0, p1, p2, p3, p4, p5⟩ := HB2.out.cli.cells; have hz2 := HB2.out.lt; have hz3 : w.heap.size < w2.heap.size := (by omega); have hsl := fun W => slice_from W h2 0 c.out.length c2 k (many - c.acked) HK.out (by omega); clear ho1 ho2 hne hh1 hlt1 hc1 hat1 hh2 hlt2 hat2; obtain ⟨r0, r1, r2, r3, r4, r5, r6, r7, r8, r9, r10, r11, r12, r13, r14, fr⟩ := fif HB2.out.res))
  have hb1 := HB1.out.lt
  have hh := HH.out
  refine bodyPost_ret (v := .agg #[.int .i64 c.repl, .int .i64 c.clock, .slice (some ⟨h1, 0, none⟩) c.log.length c1, .int .i64 many, .slice (some ⟨h2, fromOff 0 c2 k, none⟩) (c.out.length - k) (c2 - k), .int .i64 c.got, .int .i64 0, .int .i64 0, .int .i64 0, .int .i64 0, .int .i64 0, .string ⟨#[]⟩, .string ⟨#[]⟩, .int .i64 0, .int .i64 0]) (by simp [results, Tryd.results18, go_sem, HB2.out.lt, r0, r1, r2, r3, r4, r5, r6, r7, r8, r9, r10, r11, r12, r13, r14]) rfl ⟨some ⟨h1, 0, none⟩, c1, some ⟨h2, fromOff 0 c2 k, none⟩, c2 - k, by simp [OutV.agg, OpV.zero, List.length_drop], ?_, ?_, ?_⟩
  · exact (OpsAt.set15 HAt1.out (fun a e => by cases e; show h1 ≠ _; omega) _ _ _ _ _ _ _ _ _ _ _ _ _ _ _).stays ((Below.refl _ _).alloc (Nat.le_refl _) _)
  · exact (OpsAt.set15 (HAt2.out.from k hc2) (fun a e => by cases e; show h2 ≠ _; omega) _ _ _ _ _ _ _ _ _ _ _ _ _ _ _).stays ((Below.refl _ _).alloc (Nat.le_refl _) _)
  · exact (below15 HB2.out.cli.2 (by omega) _ _ _ _ _ _ _ _ _ _ _ _ _ _ _).alloc (by simp; have := HB2.out.lt; omega) _
set_option maxRecDepth 100000 in
set_option maxHeartbeats 1000000 in
theorem sAck_any (c : CliV) (la oa : Option Addr) (lc oc : Nat) (many : Int) (w : World) (hz : CSz maxLen c) (hm : Num64 many) (hA : OpsAt w la c.log) (hC : OpsAt w oa c.out) :
    Calls Tryd.prog 18 #[c.agg la lc oa oc, .int .i64 many] w fun e w' => STold w w' e (ackRes c many) := by
  have hr := fun W (hW : Below w.heap.size w W) => sRight_any c la oa lc oc W hz (hA.stays hW) (hC.stays hW)
  have hil := sIll_any
  have hcp := fun W (hcr : cliRight c = true) (hW : Below w.heap.size w W) => sCopy_any c la oa lc oc W (cli_few hcr).1 (by have := (cli_few hcr).2; omega) (hA.stays hW) (hC.stays hW)
  have hB0 := FB.start w c la lc oa oc
  have HB0 := hide hB0
  have HR := hide hr
  have HIL := hide hil
  obtain ⟨p0, p1, p2, p3, p4, p5⟩ := hB0.cli.cells
  have hrange := fun h => (cliR_iff c).1 h
  have HZ := hide hz
  have HM := hide hm
  have HA := hide hA
  have HC := hide hC
  unfold CliV.agg at *
  clear hr hil hA hC hz hB0
  cases hcr : cliRight c
  · have HF : Hid (ackRes c many = OutV.ill 1) := ⟨by simp [ackRes, hcr]⟩
    simp only [hcr] at HR
    rw [HF.out]
    clear hcr hcp hrange
    go_enter Tryd.func18, Tryd.ntmps18
    go_wp2_with (first | (go_at_call 22; (refine (HR.out _ HB0.out.cli.2).mono ?_); rintro e w1 ⟨rfl, hb1⟩; have HB1 := hide (HB0.out.step hb1); clear p0 p1 p2 p3 p4 p5 hb1; obtain ⟨p0, p1, p2, p3, p4, p5⟩ := HB1.out.cli.cells) | (go_at_call 21; (refine (HIL.out _ _).mono ?_); rintro e w2 ⟨rfl, hb2⟩; have HB2 := hide (HB1.out.step hb2); clear p0 p1 p2 p3 p4 p5 hb2; obtain ⟨p0, p1, p2, p3, p4, p5⟩ := HB2.out.cli.cells; obtain ⟨r0, r1, r2, r3, r4, r5, r6, r7, r8, r9, r10, r11, r12, r13, r14, fr⟩ := fif HB2.out.res))
    refine bodyPost_ret (v := .agg #[.int .i64 0, .int .i64 0, .slice none 0 0, .int .i64 0, .slice none 0 0, .int .i64 0, .int .i64 0, .int .i64 0, .int .i64 0, .int .i64 0, .int .i64 0, .string ⟨#[]⟩, .string ⟨#[]⟩, .int .i64 0, .int .i64 1]) (by simp [results, Tryd.results18, go_sem, r0, r1, r2, r3, r4, r5, r6, r7, r8, r9, r10, r11, r12, r13, r14]) rfl (STold.ill (below15 HB2.out.cli.2 (by omega) _ _ _ _ _ _ _ _ _ _ _ _ _ _ _))
  · have HCP := hide (fun W hW => hcp W hcr hW)
    have hR := hrange hcr
    have hfew := hR.few
    have hlow := hR.low
    have hack : c.acked ≤ 150 := by have := hR.acked; have := own_len c.log c.repl; have := hR.log.2.1; omega
    have hwr : wrap64 (c.acked + (c.out.length : Int)) = c.acked + (c.out.length : Int) := by unfold wrap64; omega
    have HCR := hide hcr
    simp only [hcr] at HR
    clear hrange hcp hR
    by_cases hm1 : many < c.acked
    · have HF : Hid (ackRes c many = OutV.ill 8) := ⟨by simp [ackRes, HCR.out, hm1]⟩
      rw [HF.out]
      clear hcr
      go_enter Tryd.func18, Tryd.ntmps18
      go_wp2_with (first | (go_at_call 22; (refine (HR.out _ HB0.out.cli.2).mono ?_); rintro e w1 ⟨rfl, hb1⟩; have HB1 := hide (HB0.out.step hb1); clear p0 p1 p2 p3 p4 p5 hb1; obtain ⟨p0, p1, p2, p3, p4, p5⟩ := HB1.out.cli.cells) | (go_at_call 21; (refine (HIL.out _ _).mono ?_); rintro e w2 ⟨rfl, hb2⟩; have HB2 := hide (HB1.out.step hb2); clear p0 p1 p2 p3 p4 p5 hb2; obtain ⟨p0, p1, p2, p3, p4, p5⟩ := HB2.out.cli.cells; obtain ⟨r0, r1, r2, r3, r4, r5, r6, r7, r8, r9, r10, r11, r12, r13, r14, fr⟩ := fif HB2.out.res))
      refine bodyPost_ret (v := .agg #[.int .i64 0, .int .i64 0, .slice none 0 0, .int .i64 0, .slice none 0 0, .int .i64 0, .int .i64 0, .int .i64 0, .int .i64 0, .int .i64 0, .int .i64 0, .string ⟨#[]⟩, .string ⟨#[]⟩, .int .i64 0, .int .i64 8]) (by simp [results, Tryd.results18, go_sem, r0, r1, r2, r3, r4, r5, r6, r7, r8, r9, r10, r11, r12, r13, r14]) rfl (STold.ill (below15 HB2.out.cli.2 (by omega) _ _ _ _ _ _ _ _ _ _ _ _ _ _ _))
    · by_cases hm2 : c.acked + (c.out.length : Int) < many
      · have HF : Hid (ackRes c many = OutV.ill 8) := ⟨by simp [ackRes, HCR.out, hm2]⟩
        rw [HF.out]
        clear hcr
        go_enter Tryd.func18, Tryd.ntmps18
        go_wp2_with (first | (go_at_call 22; (refine (HR.out _ HB0.out.cli.2).mono ?_); rintro e w1 ⟨rfl, hb1⟩; have HB1 := hide (HB0.out.step hb1); clear p0 p1 p2 p3 p4 p5 hb1; obtain ⟨p0, p1, p2, p3, p4, p5⟩ := HB1.out.cli.cells) | (go_at_call 21; (refine (HIL.out _ _).mono ?_); rintro e w2 ⟨rfl, hb2⟩; have HB2 := hide (HB1.out.step hb2); clear p0 p1 p2 p3 p4 p5 hb2; obtain ⟨p0, p1, p2, p3, p4, p5⟩ := HB2.out.cli.cells; obtain ⟨r0, r1, r2, r3, r4, r5, r6, r7, r8, r9, r10, r11, r12, r13, r14, fr⟩ := fif HB2.out.res))
        refine bodyPost_ret (v := .agg #[.int .i64 0, .int .i64 0, .slice none 0 0, .int .i64 0, .slice none 0 0, .int .i64 0, .int .i64 0, .int .i64 0, .int .i64 0, .int .i64 0, .int .i64 0, .string ⟨#[]⟩, .string ⟨#[]⟩, .int .i64 0, .int .i64 8]) (by simp [results, Tryd.results18, go_sem, r0, r1, r2, r3, r4, r5, r6, r7, r8, r9, r10, r11, r12, r13, r14]) rfl (STold.ill (below15 HB2.out.cli.2 (by omega) _ _ _ _ _ _ _ _ _ _ _ _ _ _ _))
      · have h := sAck_ok c la oa lc oc many w HZ.out HM.out HA.out HC.out HCR.out hm1 hm2
        unfold CliV.agg at h
        exact h
end Go.Proofs.YtohepdnmjaegdaaDoor.OpR
