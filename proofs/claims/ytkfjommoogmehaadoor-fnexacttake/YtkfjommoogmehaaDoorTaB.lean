/- Proves what impl.Ack answers. Proves what impl's (*hand).take answers behind its first refusals. Proves what impl.Take answers. -/
import Derived.Test.YtkfjommoogmehaaDoorCliX
import Derived.Test.YtkfjommoogmehaaDoorCliU
import Derived.Test.YtkfjommoogmehaaDoorTaA
import Derived.Test.YtkfjommoogmehaaDoorCliT
namespace Go.Proofs.YtkfjommoogmehaaDoor.OpR
open Go.ChangeShapes Go.WideShapes Go.ChangeAt Go.RowKit
set_option linter.unusedVariables false

theorem ITold.lower {w c w' : World} {e : Ending} {x : OutV} (h : ITold c w' e x) (hb : Below w.heap.size w c) : ITold w w' e x := by
  obtain ⟨la, oa, h1, h2, h3, h4, h5, h6, h7⟩ := h
  exact ⟨la, oa, h1, h2, h3, h4, fun a ea => Nat.le_trans hb.size (h5 a ea), fun a ea => Nat.le_trans hb.size (h6 a ea), hb.trans (h7.mono hb.size)⟩
theorem FB.grown {w W W' : World} {c : CliV} {la : Option Addr} {lc : Nat} {oa : Option Addr} {oc : Nat} (h : FB w W c la lc oa oc) {g : Nat} (hg : W.grownBy W' (some g)) (hl : w.heap.size + 1 < g) : FB w W' c la lc oa oc :=
  ⟨⟨(hg.block _ (by have := h.lt; omega) (fun e => by cases e; omega)).trans h.cli.1, h.cli.2.grown hg h.cli.2.size (fun k e => by cases e; omega)⟩, (hg.block _ h.lt (fun e => by cases e; omega)).trans h.res⟩
theorem HandAt.new (W : World) (x : CliV) (la : Option Addr) (lc : Nat) (oa : Option Addr) (oc : Nat) : HandAt (W.alloc (.cells #[.slice la x.log.length lc, .int .i64 x.repl, .int .i64 x.clock, .int .i64 x.acked, .slice oa x.out.length oc, .int .i64 x.got] 58)) W.heap.size x la lc oa oc := heap_alloc_new W _
theorem MarkC.set15 {w : World} {g : Nat} {c : CliV} {la oa : Option Addr} (h : MarkC w c la oa) (h1 : ∀ a, la = some a → a.block ≠ g) (h2 : ∀ a, oa = some a → a.block ≠ g) (v0 v1 v2 v3 v4 v5 v6 v7 v8 v9 v10 v11 v12 v13 v14 : Value) : MarkC ((((((((((((((((w.setCell ⟨g, 0, none⟩ v0).setCell ⟨g, 1, none⟩ v1).setCell ⟨g, 2, none⟩ v2).setCell ⟨g, 3, none⟩ v3).setCell ⟨g, 4, none⟩ v4).setCell ⟨g, 5, none⟩ v5).setCell ⟨g, 6, none⟩ v6).setCell ⟨g, 7, none⟩ v7).setCell ⟨g, 8, none⟩ v8).setCell ⟨g, 9, none⟩ v9).setCell ⟨g, 10, none⟩ v10).setCell ⟨g, 11, none⟩ v11).setCell ⟨g, 12, none⟩ v12).setCell ⟨g, 13, none⟩ v13).setCell ⟨g, 14, none⟩ v14)) c la oa := by
  have go : ∀ {n : Nat} {ao : Option Addr}, (∀ a, ao = some a → a.block ≠ g) → MarkOk w ao n → MarkOk ((((((((((((((((w.setCell ⟨g, 0, none⟩ v0).setCell ⟨g, 1, none⟩ v1).setCell ⟨g, 2, none⟩ v2).setCell ⟨g, 3, none⟩ v3).setCell ⟨g, 4, none⟩ v4).setCell ⟨g, 5, none⟩ v5).setCell ⟨g, 6, none⟩ v6).setCell ⟨g, 7, none⟩ v7).setCell ⟨g, 8, none⟩ v8).setCell ⟨g, 9, none⟩ v9).setCell ⟨g, 10, none⟩ v10).setCell ⟨g, 11, none⟩ v11).setCell ⟨g, 12, none⟩ v12).setCell ⟨g, 13, none⟩ v13).setCell ⟨g, 14, none⟩ v14)) ao n := by
    intro n ao hne hm
    rcases hm with ⟨b, N, e, hN, cs, hb, hs⟩ | h
    · exact .inl ⟨b, N, e, hN, cs, other15 hb (hne _ e) _ _ _ _ _ _ _ _ _ _ _ _ _ _ _, hs⟩
    · exact .inr h
  exact ⟨go h1 h.log, go h2 h.out, h.apart⟩
theorem CSz.mono {a b : Nat} {c : CliV} (h : CSz a c) (hab : a ≤ b) : CSz b c := ⟨Nat.le_trans h.log hab, Nat.le_trans h.out hab, fun o ho => ⟨Nat.le_trans (h.lsz o ho).1 hab, Nat.le_trans (h.lsz o ho).2 hab⟩, fun o ho => ⟨Nat.le_trans (h.osz o ho).1 hab, Nat.le_trans (h.osz o ho).2 hab⟩⟩
theorem CSz.dropOut {a : Nat} {c : CliV} (h : CSz a c) (k : Nat) (m : Int) : CSz a ⟨c.repl, c.clock, c.log, m, c.out.drop k, c.got⟩ := ⟨h.log, by have := h.out; simp; omega, h.lsz, fun o ho => h.osz o (List.mem_of_mem_drop ho)⟩
theorem drewN_grown {a b : World} {g : Nat} (h : Below a.heap.size a b) : a.grownBy b (some g) := ⟨h.os, h.tape, h.output, h.size, fun k hk _ => h.block k hk⟩
end Go.Proofs.YtkfjommoogmehaaDoor.OpR
namespace Go.Proofs.YtkfjommoogmehaaDoor.OpR
open Go.ChangeShapes Go.WideShapes Go.ChangeAt Go.RowKit
set_option linter.unusedVariables false

set_option maxRecDepth 100000 in
set_option maxHeartbeats 1000000 in
theorem take_own (c : CliV) (la oa : Option Addr) (lc oc : Nat) (fr : Int) (l : List OpV) (b off mc : Nat) (g : Nat) (w : World) {f : Nat → Addr} (hS : Sents w f) (hz : CSz maxLen c) (hf : Num64 fr) (hH : HandAt w g c la lc oa oc) (hA : OpsAt w la c.log) (hC : OpsAt w oa c.out) (hl : l.length ≤ 400) (hmc : l.length ≤ mc) (hM : OpsAt w (some ⟨b, off, none⟩) l) (hSz : Sized l) (hlc : c.log.length ≤ lc) (hcr : cliRight c = true) (hor : opsRight l = true) (h0 : 0 ≤ fr) (h1 : fr ≤ c.got) (h2 : fr + (l.length : Int) ≤ 1000000) (k : Nat) (hk : min (l.length : Int) (c.got - fr) = (k : Int)) (hyp : knownB c.log c.repl (l.drop k) = false) :
    Calls Tryd.prog 28 #[.pointer (some ⟨g, 0, none⟩), .int .i64 fr, .slice (some ⟨b, off, none⟩) l.length mc] w fun e w' => e = .returned (.tuple #[.int .i64 0, errV f (gOf 6)]) ∧ Below w.heap.size w w' := by
  have hr := fun W (hW : Below w.heap.size w W) => iRight_any c la oa lc oc W hz (hA.stays hW) (hC.stays hW)
  have ho := fun W (hW : Below w.heap.size w W) => iOps_any l (some ⟨b, off, none⟩) mc W (by unfold maxLen; omega) hmc (hM.stays hW) hSz
  have hbg : decide ((400 : Int) < (l.length : Int)) = false := by simpa using (show (l.length : Int) ≤ 400 by omega)
  rw [hcr] at hr
  rw [hor] at ho
  have b0 : decide (fr < 0) = false := by simpa using h0
  have b1 : decide (c.got < fr) = false := by simpa using h1
  have hR := (cliR_iff c).1 hcr
  have hg := hR.got
  have hlog := log_yes hR.log
  have h150 := hR.log.2.1
  have hwr : wrap64 (fr + (l.length : Int)) = fr + (l.length : Int) := by unfold wrap64; omega
  have b2 : decide (1000000 < fr + (l.length : Int)) = false := by simpa using h2
  have hkl : k ≤ l.length := by omega
  obtain ⟨m, hm⟩ : ∃ m, m = l.drop k := ⟨_, rfl⟩
  have hml : m.length = l.length - k := by rw [hm, List.length_drop]
  have hun := fun W (hW : Below w.heap.size w W) => unseen_any c la oa lc oc fr l b off mc W hl hg.2 h0 h1 k hk
  rw [← hml] at hun
  have hmat : ∀ W, Below w.heap.size w W → OpsAt W (some ⟨b, fromOff off mc k, none⟩) m := fun W hW => by rw [hm]; exact (hM.stays hW).from k hmc
  have hkn := fun W (hW : Below w.heap.size w W) => knows_any c la oa lc oc m (some ⟨b, fromOff off mc k, none⟩) (mc - k) W h150 (by omega) (hA.stays hW) (hmat W hW)
  have hmr : opsRight m = true := by rw [hm]; exact ops_drop hor k
  have hmz : Sized m := by rw [hm]; exact fun o ho => hSz o (List.mem_of_mem_drop ho)
  have hla := fun W (hW : Below w.heap.size w W) => iLogAdd_any c.log m la (some ⟨b, fromOff off mc k, none⟩) lc (mc - k) W hz.log (by unfold maxLen; omega) hlc (by omega) (hA.stays hW) (hmat W hW) hz.lsz hmz
  rw [log_right hlog hmr] at hla
  rw [← hm] at hyp
  rw [hyp] at hkn
  have hv := fun W (hW : Below w.heap.size w W) => (hS.step hW).var 3 (by omega)
  have HV := hide hv
  have HH := hide hH
  obtain ⟨p0, p1, p2, p3, p4, p5, fz⟩ := hH.cells
  have HR := hide hr
  have HO := hide ho
  have HUN := hide hun
  have HKN := hide hkn
  rw [show gOf 6 = 3 from rfl]
  unfold CliV.hand errV at *
  clear hr ho hun hkn hla hmat hv hS hA hC hz hH hM hSz hcr hor h0 h1 h2 hk hR hg hlog h150 hm hmr hmz hml hkl hyp
  go_enter Tryd.func28, Tryd.ntmps28
  go_wp2_with (first | (go_at_call 40; (refine (HR.out _ (Below.refl _ _)).mono ?_); rintro e w1 ⟨rfl, hb1⟩; have HB1 := hide hb1; clear p0 p1 p2 p3 p4 p5 fz hb1; obtain ⟨p0, p1, p2, p3, p4, p5, fz⟩ := (HH.out.step HB1.out).cells) | (go_at_call 41; (refine (HO.out _ HB1.out).mono ?_); rintro e w2 ⟨rfl, hb2⟩; have HB2 := hide (HB1.out.trans (hb2.mono HB1.out.size)); clear p0 p1 p2 p3 p4 p5 fz hb2; obtain ⟨p0, p1, p2, p3, p4, p5, fz⟩ := (HH.out.step HB2.out).cells) | (go_at_call 42; (refine (HUN.out _ HB2.out).mono ?_); rintro e w3 ⟨rfl, hb3⟩; have HB3 := hide (HB2.out.trans (hb3.mono HB2.out.size)); clear p0 p1 p2 p3 p4 p5 fz hb3; obtain ⟨p0, p1, p2, p3, p4, p5, fz⟩ := (HH.out.step HB3.out).cells) | (go_at_call 43; (refine (HKN.out _ HB3.out).mono ?_); rintro e w4 ⟨rfl, hb4⟩; have HB4 := hide (HB3.out.trans (hb4.mono HB3.out.size)); clear p0 p1 p2 p3 p4 p5 fz hb4; obtain ⟨p0, p1, p2, p3, p4, p5, fz⟩ := (HH.out.step HB4.out).cells; have q1 := HV.out _ HB4.out) | fail)
  go_region
  all_goals (
    go_wp2
    refine bodyPost_ret (v := .tuple #[.int .i64 0, .iface 109 (.pointer (some (f 3)))]) (by simp [results, Tryd.results28, go_sem]) rfl ⟨rfl, ?_⟩
    first | exact HB4.out.drew | exact drewN_b HB4.out _ | exact HB4.out | fail)
set_option maxRecDepth 100000 in
set_option maxHeartbeats 1000000 in
theorem take_log (c : CliV) (la oa : Option Addr) (lc oc : Nat) (fr : Int) (l : List OpV) (b off mc : Nat) (g : Nat) (w : World) {f : Nat → Addr} (hS : Sents w f) (hz : CSz maxLen c) (hf : Num64 fr) (hH : HandAt w g c la lc oa oc) (hA : OpsAt w la c.log) (hC : OpsAt w oa c.out) (hl : l.length ≤ 400) (hmc : l.length ≤ mc) (hM : OpsAt w (some ⟨b, off, none⟩) l) (hSz : Sized l) (hlc : c.log.length ≤ lc) (hcr : cliRight c = true) (hor : opsRight l = true) (h0 : 0 ≤ fr) (h1 : fr ≤ c.got) (h2 : fr + (l.length : Int) ≤ 1000000) (k : Nat) (hk : min (l.length : Int) (c.got - fr) = (k : Int)) (hyp : knownB c.log c.repl (l.drop k) = true) (cd : Int) (hcd : cd = 7 ∨ cd = 9) (hrc : (addRes c.log (l.drop k)).2.2 = cd) :
    Calls Tryd.prog 28 #[.pointer (some ⟨g, 0, none⟩), .int .i64 fr, .slice (some ⟨b, off, none⟩) l.length mc] w fun e w' => e = .returned (.tuple #[.int .i64 0, errV f (gOf cd)]) ∧ Below w.heap.size w w' := by
  have hr := fun W (hW : Below w.heap.size w W) => iRight_any c la oa lc oc W hz (hA.stays hW) (hC.stays hW)
  have ho := fun W (hW : Below w.heap.size w W) => iOps_any l (some ⟨b, off, none⟩) mc W (by unfold maxLen; omega) hmc (hM.stays hW) hSz
  have hbg : decide ((400 : Int) < (l.length : Int)) = false := by simpa using (show (l.length : Int) ≤ 400 by omega)
  rw [hcr] at hr
  rw [hor] at ho
  have b0 : decide (fr < 0) = false := by simpa using h0
  have b1 : decide (c.got < fr) = false := by simpa using h1
  have hR := (cliR_iff c).1 hcr
  have hg := hR.got
  have hlog := log_yes hR.log
  have h150 := hR.log.2.1
  have hwr : wrap64 (fr + (l.length : Int)) = fr + (l.length : Int) := by unfold wrap64; omega
  have b2 : decide (1000000 < fr + (l.length : Int)) = false := by simpa using h2
  have hkl : k ≤ l.length := by omega
  obtain ⟨m, hm⟩ : ∃ m, m = l.drop k := ⟨_, rfl⟩
  have hml : m.length = l.length - k := by rw [hm, List.length_drop]
  have hun := fun W (hW : Below w.heap.size w W) => unseen_any c la oa lc oc fr l b off mc W hl hg.2 h0 h1 k hk
  rw [← hml] at hun
  have hmat : ∀ W, Below w.heap.size w W → OpsAt W (some ⟨b, fromOff off mc k, none⟩) m := fun W hW => by rw [hm]; exact (hM.stays hW).from k hmc
  have hkn := fun W (hW : Below w.heap.size w W) => knows_any c la oa lc oc m (some ⟨b, fromOff off mc k, none⟩) (mc - k) W h150 (by omega) (hA.stays hW) (hmat W hW)
  have hmr : opsRight m = true := by rw [hm]; exact ops_drop hor k
  have hmz : Sized m := by rw [hm]; exact fun o ho => hSz o (List.mem_of_mem_drop ho)
  have hla := fun W (hW : Below w.heap.size w W) => iLogAdd_any c.log m la (some ⟨b, fromOff off mc k, none⟩) lc (mc - k) W hz.log (by unfold maxLen; omega) hlc (by omega) (hA.stays hW) (hmat W hW) hz.lsz hmz
  rw [log_right hlog hmr] at hla
  rw [← hm] at hyp
  rw [hyp] at hkn
  rw [← hm] at hrc
  obtain ⟨r, hrr⟩ : ∃ r, r = addRes c.log m := ⟨_, rfl⟩
  rw [← hrr] at hla hrc
  have hwi := fun W (hW : Below w.heap.size w W) => with_no c.log m la (some ⟨b, fromOff off mc k, none⟩) lc (mc - k) W (hS.step hW) r cd hcd hrc (hla W hW)
  have HH := hide hH
  obtain ⟨p0, p1, p2, p3, p4, p5, fz⟩ := hH.cells
  have HR := hide hr
  have HO := hide ho
  have HUN := hide hun
  have HKN := hide hkn
  have HWI := hide hwi
  unfold CliV.hand errV at *
  clear hr ho hun hkn hla hwi hmat hS hA hC hz hH hM hSz hcr hor h0 h1 h2 hk hR hg hlog h150 hm hmr hmz hml hkl hyp hrr hrc
  go_enter Tryd.func28, Tryd.ntmps28
  go_wp2_with (first | (go_at_call 40; (refine (HR.out _ (Below.refl _ _)).mono ?_); rintro e w1 ⟨rfl, hb1⟩; have HB1 := hide hb1; clear p0 p1 p2 p3 p4 p5 fz hb1; obtain ⟨p0, p1, p2, p3, p4, p5, fz⟩ := (HH.out.step HB1.out).cells) | (go_at_call 41; (refine (HO.out _ HB1.out).mono ?_); rintro e w2 ⟨rfl, hb2⟩; have HB2 := hide (HB1.out.trans (hb2.mono HB1.out.size)); clear p0 p1 p2 p3 p4 p5 fz hb2; obtain ⟨p0, p1, p2, p3, p4, p5, fz⟩ := (HH.out.step HB2.out).cells) | (go_at_call 42; (refine (HUN.out _ HB2.out).mono ?_); rintro e w3 ⟨rfl, hb3⟩; have HB3 := hide (HB2.out.trans (hb3.mono HB2.out.size)); clear p0 p1 p2 p3 p4 p5 fz hb3; obtain ⟨p0, p1, p2, p3, p4, p5, fz⟩ := (HH.out.step HB3.out).cells) | (go_at_call 43; (refine (HKN.out _ HB3.out).mono ?_); rintro e w4 ⟨rfl, hb4⟩; have HB4 := hide (HB3.out.trans (hb4.mono HB3.out.size)); clear p0 p1 p2 p3 p4 p5 fz hb4; obtain ⟨p0, p1, p2, p3, p4, p5, fz⟩ := (HH.out.step HB4.out).cells) | (go_at_call 44; (refine (HWI.out _ HB4.out).mono ?_); rintro e w5 ⟨va, rfl, hxa, hxb, hb5⟩; have HXA := hide hxa; have HXB := hide hxb; have HB5 := hide (HB4.out.trans (hb5.mono HB4.out.size)); clear p0 p1 p2 p3 p4 p5 fz hb5 hxa hxb; obtain ⟨p0, p1, p2, p3, p4, p5, fz⟩ := (HH.out.step HB5.out).cells) | fail)
  refine bodyPost_ret (v := .tuple #[.int .i64 0, .iface 109 (.pointer (some (f (gOf cd))))]) (by simp [results, Tryd.results28, go_sem]) rfl ⟨rfl, HB5.out⟩
set_option maxRecDepth 100000 in
set_option maxHeartbeats 1000000 in
theorem take_ok (c : CliV) (la oa : Option Addr) (lc oc : Nat) (fr : Int) (l : List OpV) (b off mc : Nat) (g : Nat) (w : World) (hz : CSz maxLen c) (hf : Num64 fr) (hH : HandAt w g c la lc oa oc) (hA : OpsAt w la c.log) (hC : OpsAt w oa c.out) (hl : l.length ≤ 400) (hmc : l.length ≤ mc) (hM : OpsAt w (some ⟨b, off, none⟩) l) (hSz : Sized l) (hlc : c.log.length ≤ lc) (hcr : cliRight c = true) (hor : opsRight l = true) (h0 : 0 ≤ fr) (h1 : fr ≤ c.got) (h2 : fr + (l.length : Int) ≤ 1000000) (k : Nat) (hk : min (l.length : Int) (c.got - fr) = (k : Int)) (hyp : knownB c.log c.repl (l.drop k) = true) (r : List OpV × Int × Int) (hrr : r = addRes c.log (l.drop k)) (hrc : r.2.2 = 0) (hrl : r.1.length ≤ 150) :
    Calls Tryd.prog 28 #[.pointer (some ⟨g, 0, none⟩), .int .i64 fr, .slice (some ⟨b, off, none⟩) l.length mc] w fun e w' => ∃ va, e = .returned (.tuple #[.int .i64 r.2.1, .nilIface]) ∧ HandAt w' g ⟨c.repl, max c.clock (lastT r.1), r.1, c.acked, c.out, max c.got (fr + (l.length : Int))⟩ va r.1.length oa oc ∧ w.grownBy w' (some g) ∧ OpsAt w' va r.1 := by
  have hr := fun W (hW : Below w.heap.size w W) => iRight_any c la oa lc oc W hz (hA.stays hW) (hC.stays hW)
  have ho := fun W (hW : Below w.heap.size w W) => iOps_any l (some ⟨b, off, none⟩) mc W (by unfold maxLen; omega) hmc (hM.stays hW) hSz
  have hbg : decide ((400 : Int) < (l.length : Int)) = false := by simpa using (show (l.length : Int) ≤ 400 by omega)
  rw [hcr] at hr
  rw [hor] at ho
  have b0 : decide (fr < 0) = false := by simpa using h0
  have b1 : decide (c.got < fr) = false := by simpa using h1
  have hR := (cliR_iff c).1 hcr
  have hg := hR.got
  have hlog := log_yes hR.log
  have h150 := hR.log.2.1
  have hwr : wrap64 (fr + (l.length : Int)) = fr + (l.length : Int) := by unfold wrap64; omega
  have b2 : decide (1000000 < fr + (l.length : Int)) = false := by simpa using h2
  have hkl : k ≤ l.length := by omega
  obtain ⟨m, hm⟩ : ∃ m, m = l.drop k := ⟨_, rfl⟩
  have hml : m.length = l.length - k := by rw [hm, List.length_drop]
  have hun := fun W (hW : Below w.heap.size w W) => unseen_any c la oa lc oc fr l b off mc W hl hg.2 h0 h1 k hk
  rw [← hml] at hun
  have hmat : ∀ W, Below w.heap.size w W → OpsAt W (some ⟨b, fromOff off mc k, none⟩) m := fun W hW => by rw [hm]; exact (hM.stays hW).from k hmc
  have hkn := fun W (hW : Below w.heap.size w W) => knows_any c la oa lc oc m (some ⟨b, fromOff off mc k, none⟩) (mc - k) W h150 (by omega) (hA.stays hW) (hmat W hW)
  have hmr : opsRight m = true := by rw [hm]; exact ops_drop hor k
  have hmz : Sized m := by rw [hm]; exact fun o ho => hSz o (List.mem_of_mem_drop ho)
  have hla := fun W (hW : Below w.heap.size w W) => iLogAdd_any c.log m la (some ⟨b, fromOff off mc k, none⟩) lc (mc - k) W hz.log (by unfold maxLen; omega) hlc (by omega) (hA.stays hW) (hmat W hW) hz.lsz hmz
  rw [log_right hlog hmr] at hla
  rw [← hm] at hyp
  rw [hyp] at hkn
  rw [← hm] at hrr
  rw [← hrr] at hla
  have hwi := fun W (hW : Below w.heap.size w W) => with_ok c.log m la (some ⟨b, fromOff off mc k, none⟩) lc (mc - k) W r hrc (hla W hW)
  have hlt := fun va W (h : OpsAt W va r.1) => lastTime_any r.1 va r.1.length W (by unfold maxLen; omega) h
  have hgl := hH.lt
  have HH := hide hH
  obtain ⟨p0, p1, p2, p3, p4, p5, fz⟩ := hH.cells
  have HR := hide hr
  have HO := hide ho
  have HUN := hide hun
  have HKN := hide hkn
  have HWI := hide hwi
  have HLT := hide hlt
  unfold CliV.hand at *
  clear hr ho hun hkn hla hwi hmat hlt hA hC hz hH hM hSz hcr hor h0 h1 h2 hk hR hg hlog h150 hm hmr hmz hml hkl hyp hrr hrc
  go_enter Tryd.func28, Tryd.ntmps28
  go_wp2_with (first | (go_at_call 40; (refine (HR.out _ (Below.refl _ _)).mono ?_); rintro e w1 ⟨rfl, hb1⟩; have HB1 := hide hb1; clear p0 p1 p2 p3 p4 p5 fz hb1; obtain ⟨p0, p1, p2, p3, p4, p5, fz⟩ := (HH.out.step HB1.out).cells) | (go_at_call 41; (refine (HO.out _ HB1.out).mono ?_); rintro e w2 ⟨rfl, hb2⟩; have HB2 := hide (HB1.out.trans (hb2.mono HB1.out.size)); clear p0 p1 p2 p3 p4 p5 fz hb2; obtain ⟨p0, p1, p2, p3, p4, p5, fz⟩ := (HH.out.step HB2.out).cells) | (go_at_call 42; (refine (HUN.out _ HB2.out).mono ?_); rintro e w3 ⟨rfl, hb3⟩; have HB3 := hide (HB2.out.trans (hb3.mono HB2.out.size)); clear p0 p1 p2 p3 p4 p5 fz hb3; obtain ⟨p0, p1, p2, p3, p4, p5, fz⟩ := (HH.out.step HB3.out).cells) | (go_at_call 43; (refine (HKN.out _ HB3.out).mono ?_); rintro e w4 ⟨rfl, hb4⟩; have HB4 := hide (HB3.out.trans (hb4.mono HB3.out.size)); clear p0 p1 p2 p3 p4 p5 fz hb4; obtain ⟨p0, p1, p2, p3, p4, p5, fz⟩ := (HH.out.step HB4.out).cells) | (go_at_call 44; (refine (HWI.out _ HB4.out).mono ?_); rintro e w5 ⟨va, rfl, hxa, hxb, hb5⟩; have HXA := hide hxa; have HXB := hide hxb; have HB5 := hide (HB4.out.trans (hb5.mono HB4.out.size)); clear p0 p1 p2 p3 p4 p5 fz hb5 hxa hxb; obtain ⟨p0, p1, p2, p3, p4, p5, fz⟩ := (HH.out.step HB5.out).cells) | fail)
  obtain ⟨X, hX⟩ : ∃ X, (w5.setCell ⟨g, 0, none⟩ (.slice va r.1.length r.1.length)).setCell ⟨g, 5, none⟩ (.int .i64 (max c.got (fr + (l.length : Int)))) = X := ⟨_, rfl⟩
  have hX1 : HandAt X g ⟨c.repl, c.clock, r.1, c.acked, c.out, max c.got (fr + (l.length : Int))⟩ va r.1.length oa oc := by
    rw [← hX]
    exact set_block (set_block (HH.out.step HB5.out) 0 (.slice va r.1.length r.1.length)) 5 (.int .i64 (max c.got (fr + (l.length : Int))))
  have hX2 : OpsAt X va r.1 := by
    rw [← hX]
    exact HXA.out.block_ (by simp) fun a ea => by
      have h1 := HXB.out a ea
      have h2 := HB4.out.size
      rw [Below.heap_setCell _ _ _ _ (by show a.block ≠ g; omega), Below.heap_setCell _ _ _ _ (by show a.block ≠ g; omega)]
  have hX3 : w.grownBy X (some g) := by
    rw [← hX]
    have hb := HB5.out
    exact ⟨by simpa [World.setCell] using hb.os, by simpa [World.setCell] using hb.tape, by simpa [World.setCell] using hb.output, by simpa using hb.size, fun j hj hne => by
      rw [Below.heap_setCell _ _ _ _ (fun e => hne (by rw [e])), Below.heap_setCell _ _ _ _ (fun e => hne (by rw [e]))]
      exact hb.block j hj⟩
  rw [hX]
  have HX1 := hide hX1
  have HX2 := hide hX2
  have hX2d : OpsAt X.drew va r.1 := hX2.stays (Below.refl _ X).drew
  have HX2d := hide hX2d
  have HX3 := hide hX3
  clear hX hX2 hX2d hX3 p0 p1 p2 p3 p4 p5 fz
  obtain ⟨p0, p1, p2, p3, p4, p5, fz⟩ := hX1.cells
  clear hX1
  go_region_with (first | (go_at_call 45; (first | with_reducible refine (HLT.out va _ HX2.out).mono ?_ | with_reducible refine (HLT.out va _ HX2d.out).mono ?_ | fail); rintro e w6 ⟨rfl, hb6⟩; have hq6 : Below X.heap.size X w6 := (by first | with_reducible exact hb6 | with_reducible exact drewB' hb6 | fail); have HB6 := hide hq6; clear p0 p1 p2 p3 p4 p5 fz hb6 hq6; obtain ⟨p0, p1, p2, p3, p4, p5, fz⟩ := (HX1.out.step HB6.out).cells) | fail)
  all_goals (
    go_wp2
    refine bodyPost_ret (v := .tuple #[.int .i64 r.2.1, .nilIface]) (by simp [results, Tryd.results28, go_sem]) rfl ⟨va, rfl, ?_, ?_, ?_⟩
    · exact set_block (HX1.out.step HB6.out) 2 (.int .i64 (max c.clock (lastT r.1)))
    · have hb := HB6.out
      have hg := HX3.out
      refine ⟨(by simpa [World.setCell] using hb.os.trans hg.os), (by simpa [World.setCell] using hb.tape.trans hg.tape), (by simpa [World.setCell] using hb.output.trans hg.output), (by simpa using Nat.le_trans hg.size hb.size), fun j hj hne => ?_⟩
      rw [Below.heap_setCell _ _ _ _ (fun e => hne (by rw [e])), hb.block j (Nat.lt_of_lt_of_le hj hg.size)]
      exact hg.block j hj hne
    · refine (HX2.out.stays HB6.out).block_ (by simp) fun a ea => ?_
      have h1 := HXB.out a ea
      have h2 := HB4.out.size
      rw [Below.heap_setCell _ _ _ _ (by show a.block ≠ g; omega)])
end Go.Proofs.YtkfjommoogmehaaDoor.OpR
namespace Go.Proofs.YtkfjommoogmehaaDoor.OpR
open Go.ChangeShapes Go.WideShapes Go.ChangeAt Go.RowKit
set_option linter.unusedVariables false

set_option maxRecDepth 100000 in
set_option maxHeartbeats 2000000 in
theorem iTake_gen (c c2 : CliV) (la oa : Option Addr) (lc oc : Nat) (fr : Int) (l : List OpV) (ma : Option Addr) (mc : Nat) (ev : Value) (n : Int) (x : OutV) (w : World)
    (htake : ∀ g W, Below w.heap.size w W → HandAt W g c la lc oa oc → Calls Tryd.prog 28 #[.pointer (some ⟨g, 0, none⟩), .int .i64 fr, .slice ma l.length mc] W fun e w' => ∃ la2 lc2, e = .returned (.tuple #[.int .i64 n, ev]) ∧ HandAt w' g c2 la2 lc2 oa oc ∧ W.grownBy w' (some g) ∧ OpsAt w' la2 c2.log)
    (htold : ∀ la2 lc2 W, Below w.heap.size w W → OpsAt W la2 c2.log → Calls Tryd.prog 29 #[c2.hand la2 lc2 oa oc, OpV.zero.agg, .int .i64 n, ev] W fun e w' => ITold W w' e x) :
    Calls Tryd.prog 9 #[c.agg la lc oa oc, .int .i64 fr, .slice ma l.length mc] w fun e w' => ITold w w' e x := by
  have hho := fun W => handOf_any c la oa lc oc W
  have hB0 := FB.start w c la lc oa oc
  have HB0 := hide hB0
  obtain ⟨p0, p1, p2, p3, p4, p5⟩ := hB0.cli.cells
  have HTO := hide htold
  have HHO := hide hho
  have HTK := hide htake
  unfold CliV.agg CliV.hand OpV.agg at *
  simp only [OpV.zero] at HTO
  clear htold hho htake hB0
  go_enter Tryd.func9, Tryd.ntmps9
  go_wp2_with (first | (go_at_call 27; (refine (HHO.out _).mono ?_); rintro e w1 ⟨rfl, hb1⟩; have HB1 := hide (HB0.out.step hb1); clear p0 p1 p2 p3 p4 p5 hb1) | (go_at_call 28; (refine (HTK.out _ _ (HB1.out.cli.2.alloc HB1.out.cli.2.size _) (HandAt.new w1 c la lc oa oc)).mono ?_); rintro e w2 ⟨la2, lc2, rfl, hh2, hg2, ho2⟩; have HO2 := hide ho2; have HB2 := hide ((HB1.out.step ((Below.refl _ _).alloc (Nat.le_refl _) _)).grown hg2 HB1.out.lt); obtain ⟨p0, p1, p2, p3, p4, p5, fr⟩ := hh2.cells; clear hh2 hg2 ho2) | (go_at_call 29; (refine (HTO.out _ _ _ HB2.out.cli.2 HO2.out).mono ?_); intro e w3 h3; obtain ⟨xl, xo, he, hL, hO, hM, hbl, hbo, hb3⟩ := h3; unfold OutV.agg at he; subst he; have HB3 := hide (HB2.out.step hb3); have HX := hide (And.intro hL (And.intro hO (And.intro hM (And.intro hbl hbo)))); have HL2 := hide HB2.out.lt; clear p0 p1 p2 p3 p4 p5 fr hL hO hM hbl hbo hb3; obtain ⟨r0, r1, r2, r3, r4, r5, r6, r7, r8, r9, r10, r11, r12, r13, r14, fr⟩ := fif HB3.out.res) | fail)
  obtain ⟨hL, hO, hM, hbl, hbo⟩ := HX.out
  have hl2 := HL2.out
  refine bodyPost_ret (v := .agg #[.int .i64 x.cl.repl, .int .i64 x.cl.clock, .slice xl x.cl.log.length x.cl.log.length, .int .i64 x.cl.acked, .slice xo x.cl.out.length x.cl.out.length, .int .i64 x.cl.got, .int .i64 x.op.time, .int .i64 x.op.repl, .int .i64 x.op.kind, .int .i64 x.op.node, .int .i64 x.op.parent, .string x.op.name, .string x.op.value, .int .i64 x.many, .int .i64 x.code]) (by simp [results, Tryd.results9, go_sem, r0, r1, r2, r3, r4, r5, r6, r7, r8, r9, r10, r11, r12, r13, r14]) rfl ⟨xl, xo, rfl, ?_, ?_, ?_, fun a ea => ?_, fun a ea => ?_, ?_⟩
  · exact OpsAt.set15 hL (fun a ea => by have := hbl a ea; omega) _ _ _ _ _ _ _ _ _ _ _ _ _ _ _
  · exact OpsAt.set15 hO (fun a ea => by have := hbo a ea; omega) _ _ _ _ _ _ _ _ _ _ _ _ _ _ _
  · exact MarkC.set15 hM (fun a ea => by have := hbl a ea; omega) (fun a ea => by have := hbo a ea; omega) _ _ _ _ _ _ _ _ _ _ _ _ _ _ _
  · have := hbl a ea; omega
  · have := hbo a ea; omega
  · exact below15 HB3.out.cli.2 (by omega) _ _ _ _ _ _ _ _ _ _ _ _ _ _ _
theorem add_mem {l m out : List OpV} {many : Int} (hl : logRight l = true) (hm : opsRight m = true) (h : addAll (l, 0) m = some (out, many)) : ∀ o ∈ out, opRight o = true := by
  have hS := rises_strict (log_of hl).2.2
  obtain ⟨h1, _⟩ := addAll_spec m (l, 0) hS
  obtain ⟨_, hM, _⟩ := h1 _ h
  intro o ho
  rcases List.mem_append.1 ((hM o).1 ho) with h2 | h2
  · obtain ⟨j, hj, rfl⟩ := List.getElem_of_mem h2
    exact (log_of hl).1 j hj
  · obtain ⟨j, hj, rfl⟩ := List.getElem_of_mem h2
    exact (opsR_of hm).2.1 j hj
/-- What impl.Take answers. -/
theorem iTake_any (c : CliV) (la : Option Addr) (lc ob oo oc : Nat) (fr : Int) (l : List OpV) (b off mc : Nat) (w : World) {f : Nat → Addr} (hS : Sents w f) (hz : CSz 1048576 c) (hf : Num64 fr) (hll : l.length ≤ 1048576) (hlz : ∀ o ∈ l, o.name.size ≤ 1048576 ∧ o.value.size ≤ 1048576) (hlc : c.log.length ≤ lc) (hoc : c.out.length ≤ oc) (hmc : l.length ≤ mc) (hA : OpsAt w la c.log) (hC : OpsAt w (some ⟨ob, oo, none⟩) c.out) (hM : OpsAt w (some ⟨b, off, none⟩) l) :
    Calls Tryd.prog 9 #[c.agg la lc (some ⟨ob, oo, none⟩) oc, .int .i64 fr, .slice (some ⟨b, off, none⟩) l.length mc] w fun e w' => ITold w w' e (takeRes c fr l) := by
  have hzm : CSz maxLen c := hz.mono (by unfold maxLen; omega)
  have hSz : Sized l := fun o ho => ⟨Nat.le_trans (hlz o ho).1 (by unfold maxLen; omega), Nat.le_trans (hlz o ho).2 (by unfold maxLen; omega)⟩
  have bad : ∀ (code : Int), ErrCode code → (∀ g W, Below w.heap.size w W → HandAt W g c la lc (some ⟨ob, oo, none⟩) oc → Calls Tryd.prog 28 #[.pointer (some ⟨g, 0, none⟩), .int .i64 fr, .slice (some ⟨b, off, none⟩) l.length mc] W fun e w' => e = .returned (.tuple #[.int .i64 0, errV f (gOf code)]) ∧ Below W.heap.size W w') →
      Calls Tryd.prog 9 #[c.agg la lc (some ⟨ob, oo, none⟩) oc, .int .i64 fr, .slice (some ⟨b, off, none⟩) l.length mc] w fun e w' => ITold w w' e (OutV.ill code) := fun code hc h =>
    iTake_gen c c la (some ⟨ob, oo, none⟩) lc oc fr l (some ⟨b, off, none⟩) mc (errV f (gOf code)) 0 _ w (fun g W hW hH => (h g W hW hH).mono fun e w' h => ⟨la, lc, h.1, hH.step h.2, drewN_grown h.2, (hA.stays hW).stays h.2⟩) (fun la2 lc2 W hW _ => told_ill (hS.step hW) hc c la2 _ lc2 oc OpV.zero 0)
  by_cases hbig : 400 < l.length
  · rw [show takeRes c fr l = OutV.ill 2 by simp [takeRes, hbig]]
    exact bad 2 (by unfold ErrCode; omega) fun g W hW hH => take_size c la (some ⟨ob, oo, none⟩) lc oc fr l _ mc g W (hS.step hW) (by unfold maxLen; omega) hbig
  have hl : l.length ≤ 400 := by omega
  cases hcr : cliRight c
  · rw [show takeRes c fr l = OutV.ill 1 by simp [takeRes, hbig, hcr]]
    exact bad 1 (by unfold ErrCode; omega) fun g W hW hH => take_form1 c la _ lc oc fr l b off mc g W (hS.step hW) hzm hf hH (hA.stays hW) (hC.stays hW) hl hmc (hM.stays hW) hSz hcr
  cases hor : opsRight l
  · rw [show takeRes c fr l = OutV.ill 1 by simp [takeRes, hbig, hcr, hor]]
    exact bad 1 (by unfold ErrCode; omega) fun g W hW hH => take_form2 c la _ lc oc fr l b off mc g W (hS.step hW) hzm hf hH (hA.stays hW) (hC.stays hW) hl hmc (hM.stays hW) hSz hcr hor
  by_cases h0 : fr < 0
  · rw [show takeRes c fr l = OutV.ill 1 by simp [takeRes, hbig, hcr, hor]; intro hh; omega]
    exact bad 1 (by unfold ErrCode; omega) fun g W hW hH => take_form3 c la _ lc oc fr l b off mc g W (hS.step hW) hzm hf hH (hA.stays hW) (hC.stays hW) hl hmc (hM.stays hW) hSz hcr hor h0
  have h0' : 0 ≤ fr := by omega
  have eT : takeRes c fr l = if c.got < fr ∨ 1000000 < fr + l.length then OutV.ill 8 else if knownB c.log c.repl (newOps c.got fr l) = false then OutV.ill 6 else if (addRes c.log (newOps c.got fr l)).2.2 ≠ 0 then OutV.ill (addRes c.log (newOps c.got fr l)).2.2 else ⟨⟨c.repl, maxT c.clock (newOps c.got fr l), (addRes c.log (newOps c.got fr l)).1, c.acked, c.out, max c.got (fr + l.length)⟩, OpV.zero, (addRes c.log (newOps c.got fr l)).2.1, 0⟩ := by
    unfold takeRes
    rw [if_neg hbig, if_neg (by rw [hcr, hor]; simp; omega)]
  rw [eT]
  by_cases h1 : c.got < fr
  · rw [if_pos (.inl h1)]
    exact bad 8 (by unfold ErrCode; omega) fun g W hW hH => take_place1 c la _ lc oc fr l b off mc g W (hS.step hW) hzm hf hH (hA.stays hW) (hC.stays hW) hl hmc (hM.stays hW) hSz hcr hor h0' h1
  by_cases h2 : 1000000 < fr + (l.length : Int)
  · rw [if_pos (.inr h2)]
    exact bad 8 (by unfold ErrCode; omega) fun g W hW hH => take_place2 c la _ lc oc fr l b off mc g W (hS.step hW) hzm hf hH (hA.stays hW) (hC.stays hW) hl hmc (hM.stays hW) hSz hcr hor h0' (by omega) h2
  rw [if_neg (by omega)]
  obtain ⟨k, hk⟩ : ∃ k : Nat, min (l.length : Int) (c.got - fr) = (k : Int) := ⟨(min (l.length : Int) (c.got - fr)).toNat, by omega⟩
  have en : newOps c.got fr l = l.drop k := by unfold newOps; rw [hk]; rfl
  rw [en]
  have hmr := ops_drop hor k
  have hR := (cliR_iff c).1 hcr
  have hlog := log_yes hR.log
  cases hkn : knownB c.log c.repl (l.drop k)
  · rw [if_pos rfl]
    exact bad 6 (by unfold ErrCode; omega) fun g W hW hH => take_own c la _ lc oc fr l b off mc g W (hS.step hW) hzm hf hH (hA.stays hW) (hC.stays hW) hl hmc (hM.stays hW) hSz hlc hcr hor h0' (by omega) (by omega) k hk hkn
  rw [if_neg (by decide)]
  have no : ∀ cd : Int, cd = 7 ∨ cd = 9 → (addRes c.log (l.drop k)).2.2 = cd → Calls Tryd.prog 9 #[c.agg la lc (some ⟨ob, oo, none⟩) oc, .int .i64 fr, .slice (some ⟨b, off, none⟩) l.length mc] w fun e w' => ITold w w' e (OutV.ill cd) := fun cd hcd hrc =>
    bad cd (by unfold ErrCode; omega) fun g W hW hH => take_log c la _ lc oc fr l b off mc g W (hS.step hW) hzm hf hH (hA.stays hW) (hC.stays hW) hl hmc (hM.stays hW) hSz hlc hcr hor h0' (by omega) (by omega) k hk hkn cd hcd hrc
  cases ha : addAll (c.log, 0) (l.drop k) with
  | none =>
    have e := res_none ha
    rw [if_pos (by rw [e]; decide), e]
    exact no 7 (.inl rfl) (by rw [e])
  | some s =>
    obtain ⟨out, many⟩ := s
    by_cases h150 : 150 < out.length
    · have e := res_full ha h150
      rw [if_pos (by rw [e]; decide), e]
      exact no 9 (.inr rfl) (by rw [e])
    · have e := res_some ha h150
      rw [if_neg (by rw [e]; simp), e]
      have hcm := clock_max (rises_strict hR.log.2.2) hR.times hR.clock.1 ha
      have hmem := add_mem hlog hmr ha
      show Calls _ _ _ _ fun e w' => ITold w w' e ⟨⟨c.repl, maxT c.clock (l.drop k), out, c.acked, c.out, max c.got (fr + l.length)⟩, OpV.zero, many, 0⟩
      rw [← hcm]
      exact iTake_gen c ⟨c.repl, max c.clock (lastT out), out, c.acked, c.out, max c.got (fr + l.length)⟩ la (some ⟨ob, oo, none⟩) lc oc fr l (some ⟨b, off, none⟩) mc .nilIface many _ w (fun g W hW hH => (take_ok c la _ lc oc fr l b off mc g W hzm hf hH (hA.stays hW) (hC.stays hW) hl hmc (hM.stays hW) hSz hlc hcr hor h0' (by omega) (by omega) k hk hkn (out, many, 0) e.symm rfl (by show out.length ≤ 150; omega)).mono fun e w' h => by
          obtain ⟨va, h1, h2, h3, h4⟩ := h
          exact ⟨va, _, h1, h2, h3, h4⟩) (fun la2 lc2 W hW ho2 => told_ok _ la2 _ lc2 oc OpV.zero many W ⟨by show out.length ≤ 1048576; omega, hz.out, fun o ho => right_sizes (hmem o ho), hz.osz⟩ (by decide) ho2 (hC.stays hW))
end Go.Proofs.YtkfjommoogmehaaDoor.OpR
