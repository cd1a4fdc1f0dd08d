/- Proves what impl.Ack answers. -/
import Derived.Test.YtohepdnmjaegdaaDoorCliX
import Derived.Test.YtohepdnmjaegdaaDoorCliU
namespace Go.Proofs.YtohepdnmjaegdaaDoor.OpR
open Go.ChangeShapes Go.WideShapes Go.ChangeAt Go.RowKit
set_option linter.unusedVariables false

theorem ITold.lower {w c w' : World} {e : Ending} {x : OutV} (h : ITold c w' e x) (hb : Below w.heap.size w c) : ITold w w' e x := by
  obtain ⟨la, oa, h1, h2, h3, h4, h5, h6, h7⟩ := h
  exact ⟨la, oa, h1, h2, h3, h4, fun a ea => Nat.le_trans hb.size (h5 a ea), fun a ea => Nat.le_trans hb.size (h6 a ea), hb.trans (h7.mono hb.size)⟩
theorem FB.grown {w W W' : World} {c : CliV} {la : Option Addr} {lc : Nat} {oa : Option Addr} {oc : Nat} (h : FB w W c la lc oa oc) {g : Nat} (hg : W.grownBy W' (some g)) (hl : w.heap.size + 1 < g) : FB w W' c la lc oa oc :=
  ⟨⟨(hg.block _ (by have := h.lt; omega) (fun e => by cases e; omega)).trans h.cli.1, h.cli.2.grown hg h.cli.2.size (fun k e => by cases e; omega)⟩, (hg.block _ h.lt (fun e => by cases e; omega)).trans h.res⟩
theorem HandAt.new (W : World) (x : CliV) (la : Option Addr) (lc : Nat) (oa : Option Addr) (oc : Nat) : HandAt (W.alloc (.cells #[.slice la x.log.length lc, .int .i64 x.repl, .int .i64 x.clock, .int .i64 x.acked, .slice oa x.out.length oc, .int .i64 x.got] 60)) W.heap.size x la lc oa oc := heap_alloc_new W _
theorem MarkC.set15 {w : World} {g : Nat} {c : CliV} {la oa : Option Addr} (h : MarkC w c la oa) (h1 : ∀ a, la = some a → a.block ≠ g) (h2 : ∀ a, oa = some a → a.block ≠ g) (v0 v1 v2 v3 v4 v5 v6 v7 v8 v9 v10 v11 v12 v13 v14 : Value) : MarkC ((((((((((((((((w.setCell ⟨g, 0, none⟩ v0).setCell ⟨g, 1, none⟩ v1).setCell ⟨g, 2, none⟩ v2).setCell ⟨g, 3, none⟩ v3).setCell ⟨g, 4, none⟩ v4).setCell ⟨g, 5, none⟩ v5).setCell ⟨g, 6, none⟩ v6).setCell ⟨g, 7, none⟩ v7).setCell ⟨g, 8, none⟩ v8).setCell ⟨g, 9, none⟩ v9).setCell ⟨g, 10, none⟩ v10).setCell ⟨g, 11, none⟩ v11).setCell ⟨g, 12, none⟩ v12).setCell ⟨g, 13, none⟩ v13).setCell ⟨g, 14, none⟩ v14)) c la oa := by
  have go : ∀ {n : Nat} {ao : Option Addr}, (∀ a, ao = some a → a.block ≠ g) → MarkOk w ao n → MarkOk ((((((((((((((((w.setCell ⟨g, 0, none⟩ v0).setCell ⟨g, 1, none⟩ v1).setCell ⟨g, 2, none⟩ v2).setCell ⟨g, 3, none⟩ v3).setCell ⟨g, 4, none⟩ v4).setCell ⟨g, 5, none⟩ v5).setCell ⟨g, 6, none⟩ v6).setCell ⟨g, 7, none⟩ v7).setCell ⟨g, 8, none⟩ v8).setCell ⟨g, 9, none⟩ v9).setCell ⟨g, 10, none⟩ v10).setCell ⟨g, 11, none⟩ v11).setCell ⟨g, 12, none⟩ v12).setCell ⟨g, 13, none⟩ v13).setCell ⟨g, 14, none⟩ v14)) ao n := by
    intro n ao hne hm
    rcases hm with ⟨b, N, e, hN, cs, hb, hs⟩ | h
    · exact .inl ⟨b, N, e, hN, cs, other15 hb (hne _ e) _ _ _ _ _ _ _ _ _ _ _ _ _ _ _, hs⟩
    · exact .inr h
  exact ⟨go h1 h.log, go h2 h.out, h.apart⟩
set_option maxRecDepth 100000 in
set_option maxHeartbeats 2000000 in
theorem iAck_gen (c c2 : CliV) (la oa la2 oa2 : Option Addr) (lc oc lc2 oc2 : Nat) (many : Int) (ev : Value) (x : OutV) (w : World)
    (hack : ∀ g W, Below w.heap.size w W → HandAt W g c la lc oa oc → Calls Tryd.prog 36 #[.pointer (some ⟨g, 0, none⟩), .int .i64 many] W fun e w' => e = .returned ev ∧ HandAt w' g c2 la2 lc2 oa2 oc2 ∧ W.grownBy w' (some g))
    (htold : ∀ W, Below w.heap.size w W → Calls Tryd.prog 32 #[c2.hand la2 lc2 oa2 oc2, OpV.zero.agg, .int .i64 0, ev] W fun e w' => ITold W w' e x) :
    Calls Tryd.prog 19 #[c.agg la lc oa oc, .int .i64 many] w fun e w' => ITold w w' e x := by
  have hho := fun W => handOf_any c la oa lc oc W
  have hB0 := FB.start w c la lc oa oc
  have HB0 := hide hB0
  obtain ⟨p0, p1, p2, p3, p4, p5⟩ := hB0.cli.cells
  have HTO := hide htold
  have HHO := hide hho
  have HACK := hide hack
  unfold CliV.agg CliV.hand OpV.agg at *
  simp only [OpV.zero] at HTO
  clear htold hho hack hB0
  go_enter Tryd.func19, Tryd.ntmps19
  go_wp2_with (first | (go_at_call 30; (refine (HHO.out _).mono ?_); rintro e w1 ⟨rfl, hb1⟩; have HB1 := hide (HB0.out.step hb1); clear p0 p1 p2 p3 p4 p5 hb1) | (go_at_call 36; (refine (HACK.out _ _ (HB1.out.cli.2.alloc HB1.out.cli.2.size _) (HandAt.new w1 c la lc oa oc)).mono ?_); rintro e w2 ⟨rfl, hh2, hg2⟩; have HB2 := hide ((HB1.out.step ((Below.refl _ _).alloc (Nat.le_refl _) _)).grown hg2 HB1.out.lt); obtain ⟨p0, p1, p2, p3, p4, p5, fr⟩ := hh2.cells; clear hh2 hg2) | (go_at_call 32; (refine (HTO.out _ HB2.out.cli.2).mono ?_); intro e w3 h3; obtain ⟨xl, xo, he, hL, hO, hM, hbl, hbo, hb3⟩ := h3; unfold OutV.agg at he; subst he; have HB3 := hide (HB2.out.step hb3); have HX := hide (And.intro hL (And.intro hO (And.intro hM (And.intro hbl hbo)))); have HL2 := hide HB2.out.lt; clear p0 p1 p2 p3 p4 p5 fr hL hO hM hbl hbo hb3; obtain ⟨r0, r1, r2, r3, r4, r5, r6, r7, r8, r9, r10, r11, r12, r13, r14, fr⟩ := fif HB3.out.res) | fail)
  obtain ⟨hL, hO, hM, hbl, hbo⟩ := HX.out
  have hl2 := HL2.out
  refine bodyPost_ret (v := .agg #[.int .i64 x.cl.repl, .int .i64 x.cl.clock, .slice xl x.cl.log.length x.cl.log.length, .int .i64 x.cl.acked, .slice xo x.cl.out.length x.cl.out.length, .int .i64 x.cl.got, .int .i64 x.op.time, .int .i64 x.op.repl, .int .i64 x.op.kind, .int .i64 x.op.node, .int .i64 x.op.parent, .string x.op.name, .string x.op.value, .int .i64 x.many, .int .i64 x.code]) (by simp [results, Tryd.results19, go_sem, r0, r1, r2, r3, r4, r5, r6, r7, r8, r9, r10, r11, r12, r13, r14]) rfl ⟨xl, xo, rfl, ?_, ?_, ?_, fun a ea => ?_, fun a ea => ?_, ?_⟩
  · exact OpsAt.set15 hL (fun a ea => by have := hbl a ea; omega) _ _ _ _ _ _ _ _ _ _ _ _ _ _ _
  · exact OpsAt.set15 hO (fun a ea => by have := hbo a ea; omega) _ _ _ _ _ _ _ _ _ _ _ _ _ _ _
  · exact MarkC.set15 hM (fun a ea => by have := hbl a ea; omega) (fun a ea => by have := hbo a ea; omega) _ _ _ _ _ _ _ _ _ _ _ _ _ _ _
  · have := hbl a ea; omega
  · have := hbo a ea; omega
  · exact below15 HB3.out.cli.2 (by omega) _ _ _ _ _ _ _ _ _ _ _ _ _ _ _
theorem CSz.mono {a b : Nat} {c : CliV} (h : CSz a c) (hab : a ≤ b) : CSz b c := ⟨Nat.le_trans h.log hab, Nat.le_trans h.out hab, fun o ho => ⟨Nat.le_trans (h.lsz o ho).1 hab, Nat.le_trans (h.lsz o ho).2 hab⟩, fun o ho => ⟨Nat.le_trans (h.osz o ho).1 hab, Nat.le_trans (h.osz o ho).2 hab⟩⟩
theorem CSz.dropOut {a : Nat} {c : CliV} (h : CSz a c) (k : Nat) (m : Int) : CSz a ⟨c.repl, c.clock, c.log, m, c.out.drop k, c.got⟩ := ⟨h.log, by have := h.out; simp; omega, h.lsz, fun o ho => h.osz o (List.mem_of_mem_drop ho)⟩
theorem drewN_grown {a b : World} {g : Nat} (h : Below a.heap.size a b) : a.grownBy b (some g) := ⟨h.os, h.tape, h.output, h.size, fun k hk _ => h.block k hk⟩
set_option maxRecDepth 100000 in
set_option maxHeartbeats 1000000 in
/-- What impl.Ack answers. -/
theorem iAck_any (c : CliV) (la : Option Addr) (lc ob oo oc : Nat) (many : Int) (w : World) {f : Nat → Addr} (hS : Sents w f) (hz : CSz 1048576 c) (hm : Num64 many) (hoc : c.out.length ≤ oc) (hA : OpsAt w la c.log) (hC : OpsAt w (some ⟨ob, oo, none⟩) c.out) :
    Calls Tryd.prog 19 #[c.agg la lc (some ⟨ob, oo, none⟩) oc, .int .i64 many] w fun e w' => ITold w w' e (ackRes c many) := by
  have hzm : CSz maxLen c := hz.mono (by unfold maxLen; omega)
  by_cases hcr : cliRight c = true
  · by_cases hmm : many < c.acked ∨ c.acked + (c.out.length : Int) < many
    · rw [show ackRes c many = OutV.ill 8 by simp only [ackRes, hcr]; rw [if_neg (by decide), if_pos hmm]]
      refine iAck_gen c c la (some ⟨ob, oo, none⟩) la (some ⟨ob, oo, none⟩) lc oc lc oc many (errV f (gOf 8)) _ w (fun g W hW hH => (ack_place c la _ lc oc many g W (hS.step hW) hzm hm hH (hA.stays hW) (hC.stays hW) hcr hmm).mono fun e w' h => ⟨h.1, hH.step h.2, drewN_grown h.2⟩) (fun W hW => told_ill (hS.step hW) (by unfold ErrCode; omega) c la _ lc oc OpV.zero 0)
    · obtain ⟨k, hk⟩ : ∃ k : Nat, many - c.acked = (k : Int) := ⟨(many - c.acked).toNat, by omega⟩
      have hkl : k ≤ c.out.length := by omega
      have e : (many - c.acked).toNat = k := by omega
      rw [show ackRes c many = ⟨⟨c.repl, c.clock, c.log, many, c.out.drop k, c.got⟩, OpV.zero, 0, 0⟩ by
        simp only [ackRes, hcr]
        rw [if_neg (by decide), if_neg (by omega), e]]
      refine iAck_gen c ⟨c.repl, c.clock, c.log, many, c.out.drop k, c.got⟩ la (some ⟨ob, oo, none⟩) la (some ⟨ob, fromOff oo oc k, none⟩) lc oc lc (oc - k) many .nilIface _ w (fun g W hW hH => ack_ok c la lc ob oo oc many g W hzm hm hoc hH (hA.stays hW) (hC.stays hW) hcr k hk hkl) (fun W hW => told_ok _ la _ lc (oc - k) OpV.zero 0 W (hz.dropOut k many) (by decide) (hA.stays hW) ((hC.stays hW).from k hoc))
  · have hcf : cliRight c = false := by simpa using hcr
    rw [show ackRes c many = OutV.ill 1 by simp [ackRes, hcf]]
    refine iAck_gen c c la (some ⟨ob, oo, none⟩) la (some ⟨ob, oo, none⟩) lc oc lc oc many (errV f (gOf 1)) _ w (fun g W hW hH => (ack_ill c la _ lc oc many g W (hS.step hW) hzm hm hH (hA.stays hW) (hC.stays hW) hcf).mono fun e w' h => ⟨h.1, hH.step h.2, drewN_grown h.2⟩) (fun W hW => told_ill (hS.step hW) (by unfold ErrCode; omega) c la _ lc oc OpV.zero 0)
end Go.Proofs.YtohepdnmjaegdaaDoor.OpR
