/- Proves what impl's (*hand).act does where it puts a deed, and where the log is full. -/
import Derived.Test.YtfkgmkcndchkjaaGreatDoorMgF
import Derived.Test.YtfkgmkcndchkjaaGreatDoorMgG
namespace Go.Proofs.YtfkgmkcndchkjaaGreatDoor.OpR
open Go.ChangeShapes Go.WideShapes Go.ChangeAt Go.RowKit
set_option linter.unusedVariables false

theorem askAl {W : World} {n g : Nat} {t r kd x p : Int} {nm vl : ByteArray} {u : Value} (h : AskS W n g t r kd x p nm vl u) (hn : n < W.heap.size) (hg : g < W.heap.size) (ob : Obj) : AskS (W.alloc ob).drew n g t r kd x p nm vl u := by
  have e1 : (W.alloc ob).drew.heap[n]? = W.heap[n]? := ((Below.refl W.heap.size W).alloc (Nat.le_refl _) ob).drew.block n hn
  have e2 : (W.alloc ob).drew.heap[g]? = W.heap[g]? := ((Below.refl W.heap.size W).alloc (Nat.le_refl _) ob).drew.block g hg
  unfold AskS at *
  simpa only [World.cell?, e1, e2] using h
set_option maxRecDepth 100000 in
set_option maxHeartbeats 1000000 in
theorem hact_full2 (c : CliV) (la oa : Option Addr) (lc oc : Nat) (kd x p : Int) (nm vl : ByteArray) (g : Nat) (w : World) {f : Nat → Addr} (hS : Sents w f) (hz : CSz maxLen c) (hH : HandAt w g c la lc oa oc) (hA : OpsAt w la c.log) (hC : OpsAt w oa c.out) (hnm : nm.size ≤ maxLen) (hvl : vl.size ≤ maxLen) (h0 : ¬ 8000 < nm.size) (h00 : ¬ 8000 < vl.size) (hlc : c.log.length ≤ lc) (hcr : cliRight c = true) (ht : ¬ c.clock = 1000000) (hop : opRight ⟨c.clock + 1, c.repl, kd, x, p, nm, vl⟩ = true) (hadm : ∀ W, Below w.heap.size w W → Calls Tryz.prog 77 #[.slice la c.log.length lc, .agg #[.int .i64 (c.clock + 1), .int .i64 c.repl, .int .i64 kd, .int .i64 x, .int .i64 p, .string nm, .string vl]] W fun e w' => e = .returned .nilIface ∧ Below W.heap.size W w') (hnf : ¬ c.out.length = 30) (hfu : 150 ≤ c.log.length) : Calls Tryz.prog 47 #[.pointer (some ⟨g, 0, none⟩), .agg #[.int .i64 0, .int .i64 0, .int .i64 kd, .int .i64 x, .int .i64 p, .string nm, .string vl]] w fun e w' => e = .returned (.tuple #[.agg #[.int .i64 0, .int .i64 0, .int .i64 0, .int .i64 0, .int .i64 0, .string ⟨#[]⟩, .string ⟨#[]⟩], errV f (gOf 9)]) ∧ Below w.heap.size w w' := by
  have HB0 := hide (AcS.new w 0 0 kd x p nm vl)
  have HH := hide hH
  have hgl := hH.lt
  have hlow := hS.low 6 (by omega)
  obtain ⟨p0, p1, p2, p3, p4, p5, fz⟩ := (hH.step HB0.out.below).cells
  obtain ⟨q0, q1, q2, q3, q4, q5, q6, _⟩ := cells7f HB0.out.op
  obtain ⟨z0, z1, z2, z3, z4, z5, z6, zf⟩ := cells7f HB0.out.res
  have d0 : decide (8000 < nm.size) = false := by simpa using h0
  have d0' : decide ((8000 : Int) < (nm.size : Int)) = false := by simpa using (show ¬ (8000 : Int) < (nm.size : Int) by omega)
  have e0 : decide (8000 < vl.size) = false := by simpa using h00
  have e0' : decide ((8000 : Int) < (vl.size : Int)) = false := by simpa using (show ¬ (8000 : Int) < (vl.size : Int) by omega)
  have hr := fun W (hW : Below w.heap.size w W) => iRight_any c la oa lc oc W hz (hA.stays hW) (hC.stays hW)
  rw [hcr] at hr
  have HR := hide hr
  obtain ⟨T9, hT9⟩ : ∃ T9, T9 = c.clock + 1 := ⟨_, rfl⟩
  have hR := (cliR_iff c).1 hcr
  have hk0 := hR.clock
  have hlog := log_yes hR.log
  have hl150 := hR.log.2.1
  have ho30 := hR.few
  have hwk : wrap64 (c.clock + 1) = T9 := by unfold wrap64; omega
  have hwk2 : IntKind.i64.wrap (c.clock + 1) = T9 := by rw [IntKind.wrap_i64]; omega
  have dt : (c.clock == 1000000) = false := by simpa using ht
  have hio := fun W => iOp_any ⟨T9, c.repl, kd, x, p, nm, vl⟩ W hnm hvl
  dsimp only [OpV.agg] at hio
  rw [← hT9] at hop
  rw [hop] at hio
  have HO := hide hio
  rw [← hT9] at hadm
  have HAd := hide hadm
  have f1 : (c.out.length == 30) = false := by simpa using hnf
  have f2 : ((c.out.length : Int) == 30) = false := by simpa using (show ¬ (c.out.length : Int) = 30 by omega)
  have hN9 : ∀ W : World, OpsAt (W.alloc (.cells #[.int .i64 T9, .int .i64 c.repl, .int .i64 kd, .int .i64 x, .int .i64 p, .string nm, .string vl] 30)) (some ⟨W.heap.size, 0, none⟩) [(⟨T9, c.repl, kd, x, p, nm, vl⟩ : OpV)] := fun W => one_ops W ⟨T9, c.repl, kd, x, p, nm, vl⟩ 30
  have hSz1 : Sized [(⟨T9, c.repl, kd, x, p, nm, vl⟩ : OpV)] := fun o ho => by rw [List.mem_singleton.1 ho]; exact ⟨hnm, hvl⟩
  have hlr := log_last (l := c.log) (o := ⟨T9, c.repl, kd, x, p, nm, vl⟩) hlog hop (fun y hy => by have := hR.times y hy; show y.time < T9; omega)
  have hla := fun W B (hW : Below w.heap.size w W) (hN : OpsAt W (some ⟨B, 0, none⟩) [(⟨T9, c.repl, kd, x, p, nm, vl⟩ : OpV)]) => iLogAdd_any c.log [⟨T9, c.repl, kd, x, p, nm, vl⟩] la (some ⟨B, 0, none⟩) lc 1 W hz.log (by show (1 : Nat) ≤ maxLen; unfold maxLen; omega) hlc (Nat.le_refl _) (hA.stays hW) hN hz.lsz hSz1
  rw [hlr] at hla
  rw [if_pos hfu] at hla
  have hwi : ∀ (W : World) (B : Nat), Below w.heap.size w W → OpsAt W (some ⟨B, 0, none⟩) [(⟨T9, c.repl, kd, x, p, nm, vl⟩ : OpV)] → Calls Tryz.prog 78 #[.slice la c.log.length lc, .slice (some ⟨B, 0, none⟩) 1 1] W fun e w' => ∃ va, e = .returned (.tuple #[.slice va 0 0, .int .i64 0, errV f (gOf 9)]) ∧ OpsAt w' va [] ∧ (∀ a, va = some a → W.heap.size ≤ a.block) ∧ Below W.heap.size W w' := fun W B hW hN => with_no c.log [⟨T9, c.repl, kd, x, p, nm, vl⟩] la (some ⟨B, 0, none⟩) lc 1 W (hS.step hW) ([], 0, 9) 9 (.inr rfl) rfl (hla W B hW hN)
  have HWi := hide hwi
  have HN9 := hide hN9
  unfold errV CliV.hand at *
  clear hS hA hC hz hH hadm hnf hR hk0 hlog hl150 ho30 hio hop hT9 ht hcr hr hfu hla hwi hN9 hlr hSz1
  go_enter Tryz.func47, Tryz.ntmps47
  go_wp2_with (first | (go_at_call 75; (refine (HR.out _ HB0.out.below).mono ?_); rintro e w1 ⟨rfl, hb1⟩; have HB1 := hide (HB0.out.step hb1); clear p0 p1 p2 p3 p4 p5 fz q0 q1 q2 q3 q4 q5 q6 z0 z1 z2 z3 z4 z5 z6 zf hb1; obtain ⟨p0, p1, p2, p3, p4, p5, fz⟩ := (HH.out.step HB1.out.below).cells; obtain ⟨q0, q1, q2, q3, q4, q5, q6, _⟩ := cells7f HB1.out.op; obtain ⟨z0, z1, z2, z3, z4, z5, z6, zf⟩ := cells7f HB1.out.res; have s20 := hand2 (HH.out.step HB1.out.below.drew); have s21 := hand2 ((HandAt.away (i := 0) (v := .int .i64 T9) (HH.out.step HB1.out.below) (show g ≠ w.heap.size by omega)).step (Below.refl _ _).drew); have s22 := hand2 ((HandAt.away (i := 1) (v := .int .i64 c.repl) (HandAt.away (i := 0) (v := .int .i64 T9) (HH.out.step HB1.out.below) (show g ≠ w.heap.size by omega)) (show g ≠ w.heap.size by omega)).step (Below.refl _ _).drew)) | fail)
  go_region_held3 (fun W => W.cell? ⟨g, 2, none⟩ = some (.int .i64 c.clock) ∧ W.cell? ⟨g, 1, none⟩ = some (.int .i64 c.repl)) (first | with_reducible exact s20 | with_reducible exact s21 | with_reducible exact s22) (fail)
  obtain ⟨X, hX⟩ : ∃ X, ((w1.setCell ⟨w.heap.size, 0, none⟩ (.int .i64 T9)).setCell ⟨w.heap.size, 1, none⟩ (.int .i64 c.repl)).drew = X := ⟨_, rfl⟩
  have hBX : AcS w X T9 c.repl kd x p nm vl := by rw [← hX]; exact (HB1.out.set01 T9 c.repl).step (Below.refl _ _).drew
  rw [hX]
  have HB2 := hide hBX
  clear hX hBX s20 s21 s22
  try clear p0 p1 p2 p3 p4 p5 fz q0 q1 q2 q3 q4 q5 q6
  try clear z0 z1 z2 z3 z4 z5 z6 zf
  obtain ⟨p0, p1, p2, p3, p4, p5, fz⟩ := (HH.out.step HB2.out.below).cells
  obtain ⟨q0, q1, q2, q3, q4, q5, q6, _⟩ := cells7f HB2.out.op
  obtain ⟨z0, z1, z2, z3, z4, z5, z6, zf⟩ := cells7f HB2.out.res
  go_wp2_with (first | (go_at_call 76; (refine (HO.out _).mono ?_); rintro e w3 ⟨rfl, hb3⟩; have HB3 := hide (HB2.out.step hb3); clear p0 p1 p2 p3 p4 p5 fz q0 q1 q2 q3 q4 q5 q6 z0 z1 z2 z3 z4 z5 z6 zf hb3; obtain ⟨p0, p1, p2, p3, p4, p5, fz⟩ := (HH.out.step HB3.out.below).cells; obtain ⟨q0, q1, q2, q3, q4, q5, q6, _⟩ := cells7f HB3.out.op; obtain ⟨z0, z1, z2, z3, z4, z5, z6, zf⟩ := cells7f HB3.out.res) | fail)
  have b3d := HB3.out.below.drew
  have s0 := askS (HB3.out.step (Below.refl _ _).drew) (HH.out.step HB3.out.below.drew)
  have s1 := s0
  unfold AskS at s0 s1
  go_region_held3 (fun W => W.cell? ⟨g, 0, none⟩ = some (.slice la c.log.length lc) ∧ W.cell? ⟨w.heap.size, 0, none⟩ = some (.int .i64 T9) ∧ W.cell? ⟨w.heap.size, 1, none⟩ = some (.int .i64 c.repl) ∧ W.cell? ⟨w.heap.size, 2, none⟩ = some (.int .i64 kd) ∧ W.cell? ⟨w.heap.size, 3, none⟩ = some (.int .i64 x) ∧ W.cell? ⟨w.heap.size, 4, none⟩ = some (.int .i64 p) ∧ W.cell? ⟨w.heap.size, 5, none⟩ = some (.string nm) ∧ W.cell? ⟨w.heap.size, 6, none⟩ = some (.string vl)) (first | with_reducible exact s0 | with_reducible exact s1) (first | (go_at_call 77; (first | with_reducible refine (HAd.out _ b3d).mono ?_ | refine (HAd.out _ HB3.out.below).mono ?_); rintro e w4 ⟨rfl, hb4⟩; have HB4 := hide (HB3.out.step (drewB9 hb4)); clear s1 hb4; have s1 := askS HB4.out (HH.out.step HB4.out.below); unfold AskS at s1; clear p0 p1 p2 p3 p4 p5 fz q0 q1 q2 q3 q4 q5 q6 z0 z1 z2 z3 z4 z5 z6 zf; obtain ⟨p0, p1, p2, p3, p4, p5, fz⟩ := (HH.out.step HB4.out.below).cells; obtain ⟨q0, q1, q2, q3, q4, q5, q6, _⟩ := cells7f HB4.out.op; obtain ⟨z0, z1, z2, z3, z4, z5, z6, zf⟩ := cells7f HB4.out.res) | fail)
  go_wp2
  have b4d := (HB4.out.below.alloc HB4.out.below.size (.cells #[.int .i64 T9, .int .i64 c.repl, .int .i64 kd, .int .i64 x, .int .i64 p, .string nm, .string vl] 30)).drew
  have s0 := askS (HB4.out.step (Below.refl _ _).drew) (HH.out.step HB4.out.below.drew)
  have s1 := askAl (askS HB4.out (HH.out.step HB4.out.below)) (Nat.lt_of_succ_lt HB4.out.lt) (Nat.lt_of_lt_of_le hgl HB4.out.below.size) (.cells #[.int .i64 T9, .int .i64 c.repl, .int .i64 kd, .int .i64 x, .int .i64 p, .string nm, .string vl] 30)
  have s2 := s1
  have n4 := (HN9.out w4).stays (Below.refl _ _).drew
  unfold AskS at s0 s1 s2
  go_region_held3 (fun W => W.cell? ⟨g, 0, none⟩ = some (.slice la c.log.length lc) ∧ W.cell? ⟨w.heap.size, 0, none⟩ = some (.int .i64 T9) ∧ W.cell? ⟨w.heap.size, 1, none⟩ = some (.int .i64 c.repl) ∧ W.cell? ⟨w.heap.size, 2, none⟩ = some (.int .i64 kd) ∧ W.cell? ⟨w.heap.size, 3, none⟩ = some (.int .i64 x) ∧ W.cell? ⟨w.heap.size, 4, none⟩ = some (.int .i64 p) ∧ W.cell? ⟨w.heap.size, 5, none⟩ = some (.string nm) ∧ W.cell? ⟨w.heap.size, 6, none⟩ = some (.string vl)) (first | with_reducible exact s0 | with_reducible exact s1 | with_reducible exact s2) (first | (go_at_call 78; (with_reducible refine (HWi.out _ w4.heap.size b4d n4).mono ?_); rintro e w5 ⟨va, rfl, hxa, hxb, hb5⟩; have hq5 := ((Below.refl w4.heap.size w4).alloc (Nat.le_refl _) (.cells #[.int .i64 T9, .int .i64 c.repl, .int .i64 kd, .int .i64 x, .int .i64 p, .string nm, .string vl] 30)).drew.trans (hb5.mono (by simp [World.drew])); have HB5 := hide (HB4.out.step hq5); have HXA := hide hxa; have HXB := hide hxb; clear s2 hb5 hq5 hxa hxb; have s2 := askS HB5.out (HH.out.step HB5.out.below); unfold AskS at s2; clear p0 p1 p2 p3 p4 p5 fz q0 q1 q2 q3 q4 q5 q6 z0 z1 z2 z3 z4 z5 z6 zf; obtain ⟨p0, p1, p2, p3, p4, p5, fz⟩ := (HH.out.step HB5.out.below).cells; obtain ⟨q0, q1, q2, q3, q4, q5, q6, _⟩ := cells7f HB5.out.op; obtain ⟨z0, z1, z2, z3, z4, z5, z6, zf⟩ := cells7f HB5.out.res) | fail)
  go_wp2
  refine bodyPost_ret (v := .tuple #[.agg #[.int .i64 0, .int .i64 0, .int .i64 0, .int .i64 0, .int .i64 0, .string ⟨#[]⟩, .string ⟨#[]⟩], .iface 235 (.pointer (some (f (gOf 9))))]) (by simp [results, Tryz.results47, go_sem, z0, z1, z2, z3, z4, z5, z6]) rfl ⟨rfl, ?_⟩
  first | with_reducible exact below7 HB5.out.below (by omega) _ _ _ _ _ _ _ | with_reducible exact below7 (drewN_b HB5.out.below _) (by omega) _ _ _ _ _ _ _ | (trace_state; fail)
theorem ops_blk {w w' : World} {ao : Option Addr} {l : List OpV} (h : OpsAt w ao l) (hs : w.heap.size ≤ w'.heap.size) (hb : ∀ a, ao = some a → w'.heap[a.block]? = w.heap[a.block]?) : OpsAt w' ao l := fun j hj => by
  obtain ⟨b, off, e, hlt, ho⟩ := h j hj
  exact ⟨b, off, e, Nat.lt_of_lt_of_le hlt hs, ho.block (hb _ e)⟩
theorem act_fin {w w6 : World} {g : Nat} {c : CliV} {la : Option Addr} {lc : Nat} {oa : Option Addr} {oc : Nat} {o : OpV} {va ao6 : Option Addr} {c6 : Nat} {zl zo : List OpV} {T9 : Int} (v0 v1 v2 v3 v4 v5 v6 : Value) (hgl : g < w.heap.size) (hb : Below w.heap.size w w6) (hh : HandAt w6 g c la lc oa oc) (hl : OpsAt w6 va zl) (ho : OpsAt w6 ao6 zo) (hva : ∀ a, va = some a → w.heap.size + 1 < a.block) (hao : ∀ a, ao6 = some a → w.heap.size + 1 < a.block) (hzl : zl = c.log ++ [o]) (hzo : zo = c.out ++ [o]) (ht : o.time = T9) :
    HandAt (((((((((((w6.setCell ⟨g, 0, none⟩ (.slice va zl.length zl.length)).setCell ⟨g, 4, none⟩ (.slice ao6 zo.length c6)).setCell ⟨g, 2, none⟩ (.int .i64 T9)).setCell ⟨w.heap.size + 1, 0, none⟩ v0).setCell ⟨w.heap.size + 1, 1, none⟩ v1).setCell ⟨w.heap.size + 1, 2, none⟩ v2).setCell ⟨w.heap.size + 1, 3, none⟩ v3).setCell ⟨w.heap.size + 1, 4, none⟩ v4).setCell ⟨w.heap.size + 1, 5, none⟩ v5).setCell ⟨w.heap.size + 1, 6, none⟩ v6)) g (putC c o) va (c.log ++ [o]).length ao6 c6 ∧ w.grownBy (((((((((((w6.setCell ⟨g, 0, none⟩ (.slice va zl.length zl.length)).setCell ⟨g, 4, none⟩ (.slice ao6 zo.length c6)).setCell ⟨g, 2, none⟩ (.int .i64 T9)).setCell ⟨w.heap.size + 1, 0, none⟩ v0).setCell ⟨w.heap.size + 1, 1, none⟩ v1).setCell ⟨w.heap.size + 1, 2, none⟩ v2).setCell ⟨w.heap.size + 1, 3, none⟩ v3).setCell ⟨w.heap.size + 1, 4, none⟩ v4).setCell ⟨w.heap.size + 1, 5, none⟩ v5).setCell ⟨w.heap.size + 1, 6, none⟩ v6)) (some g) ∧ OpsAt (((((((((((w6.setCell ⟨g, 0, none⟩ (.slice va zl.length zl.length)).setCell ⟨g, 4, none⟩ (.slice ao6 zo.length c6)).setCell ⟨g, 2, none⟩ (.int .i64 T9)).setCell ⟨w.heap.size + 1, 0, none⟩ v0).setCell ⟨w.heap.size + 1, 1, none⟩ v1).setCell ⟨w.heap.size + 1, 2, none⟩ v2).setCell ⟨w.heap.size + 1, 3, none⟩ v3).setCell ⟨w.heap.size + 1, 4, none⟩ v4).setCell ⟨w.heap.size + 1, 5, none⟩ v5).setCell ⟨w.heap.size + 1, 6, none⟩ v6)) va (c.log ++ [o]) ∧ OpsAt (((((((((((w6.setCell ⟨g, 0, none⟩ (.slice va zl.length zl.length)).setCell ⟨g, 4, none⟩ (.slice ao6 zo.length c6)).setCell ⟨g, 2, none⟩ (.int .i64 T9)).setCell ⟨w.heap.size + 1, 0, none⟩ v0).setCell ⟨w.heap.size + 1, 1, none⟩ v1).setCell ⟨w.heap.size + 1, 2, none⟩ v2).setCell ⟨w.heap.size + 1, 3, none⟩ v3).setCell ⟨w.heap.size + 1, 4, none⟩ v4).setCell ⟨w.heap.size + 1, 5, none⟩ v5).setCell ⟨w.heap.size + 1, 6, none⟩ v6)) ao6 (c.out ++ [o]) := by
  subst hzl
  subst hzo
  subst ht
  have far : ∀ k, k ≠ g → k ≠ w.heap.size + 1 → (((((((((((w6.setCell ⟨g, 0, none⟩ (.slice va (c.log ++ [o]).length (c.log ++ [o]).length)).setCell ⟨g, 4, none⟩ (.slice ao6 (c.out ++ [o]).length c6)).setCell ⟨g, 2, none⟩ (.int .i64 o.time)).setCell ⟨w.heap.size + 1, 0, none⟩ v0).setCell ⟨w.heap.size + 1, 1, none⟩ v1).setCell ⟨w.heap.size + 1, 2, none⟩ v2).setCell ⟨w.heap.size + 1, 3, none⟩ v3).setCell ⟨w.heap.size + 1, 4, none⟩ v4).setCell ⟨w.heap.size + 1, 5, none⟩ v5).setCell ⟨w.heap.size + 1, 6, none⟩ v6)).heap[k]? = w6.heap[k]? := fun k h1 h2 => by
    iterate 7 rw [Below.heap_setCell _ _ _ _ (by show k ≠ w.heap.size + 1; exact h2)]
    iterate 3 rw [Below.heap_setCell _ _ _ _ (by show k ≠ g; exact h1)]
  have hg1 : g ≠ w.heap.size + 1 := by omega
  refine ⟨?_, ?_, ?_, ?_⟩
  · unfold HandAt
    iterate 7 rw [Below.heap_setCell _ _ _ _ (by show g ≠ w.heap.size + 1; exact hg1)]
    exact set_block (set_block (set_block hh 0 (.slice va (c.log ++ [o]).length (c.log ++ [o]).length)) 4 (.slice ao6 (c.out ++ [o]).length c6)) 2 (.int .i64 o.time)
  · exact ⟨by simpa [World.setCell] using hb.os, by simpa [World.setCell] using hb.tape, by simpa [World.setCell] using hb.output, by simpa using hb.size, fun j hj hne => (far j (fun e => hne (by rw [e])) (by omega)).trans (hb.block j hj)⟩
  · exact ops_blk hl (by simp) fun a e => far _ (by have := hva a e; omega) (by have := hva a e; omega)
  · exact ops_blk ho (by simp) fun a e => far _ (by have := hao a e; omega) (by have := hao a e; omega)
theorem two_c {w : World} {g : Nat} {v0 v1 : Value} {T : TypeId} {fr : Nat × Nat} (h : w.heap[g]? = some (.cells #[v0, v1] T fr)) : w.cell? ⟨g, 0, none⟩ = some v0 ∧ w.cell? ⟨g, 1, none⟩ = some v1 := by
  refine ⟨?_, ?_⟩ <;> simp [World.cell?, h]
/-- A deed's cells, wherever another block was written. -/
theorem op_away {W : World} {n : Nat} {t r kd x p : Int} {nm vl : ByteArray} (h : W.heap[n]? = some (.cells #[.int .i64 t, .int .i64 r, .int .i64 kd, .int .i64 x, .int .i64 p, .string nm, .string vl] 30 (0, 0))) {b i : Nat} {v : Value} (hne : n ≠ b) : (W.setCell ⟨b, i, none⟩ v).heap[n]? = some (.cells #[.int .i64 t, .int .i64 r, .int .i64 kd, .int .i64 x, .int .i64 p, .string nm, .string vl] 30 (0, 0)) := (Below.heap_setCell _ _ _ _ hne).trans h
theorem op_seven {W : World} {n : Nat} {t r kd x p : Int} {nm vl : ByteArray} (h : W.heap[n]? = some (.cells #[.int .i64 t, .int .i64 r, .int .i64 kd, .int .i64 x, .int .i64 p, .string nm, .string vl] 30 (0, 0))) : W.cell? ⟨n, 0, none⟩ = some (.int .i64 t) ∧ W.cell? ⟨n, 1, none⟩ = some (.int .i64 r) ∧ W.cell? ⟨n, 2, none⟩ = some (.int .i64 kd) ∧ W.cell? ⟨n, 3, none⟩ = some (.int .i64 x) ∧ W.cell? ⟨n, 4, none⟩ = some (.int .i64 p) ∧ W.cell? ⟨n, 5, none⟩ = some (.string nm) ∧ W.cell? ⟨n, 6, none⟩ = some (.string vl) := by
  obtain ⟨a0, a1, a2, a3, a4, a5, a6, _⟩ := cells7f h
  exact ⟨a0, a1, a2, a3, a4, a5, a6⟩
set_option maxRecDepth 100000 in
set_option maxHeartbeats 4000000 in
theorem hact_ok (c : CliV) (la oa : Option Addr) (lc oc : Nat) (kd x p : Int) (nm vl : ByteArray) (g : Nat) (w : World) {f : Nat → Addr} (hS : Sents w f) (hz : CSz maxLen c) (hH : HandAt w g c la lc oa oc) (hA : OpsAt w la c.log) (hC : OpsAt w oa c.out) (hnm : nm.size ≤ maxLen) (hvl : vl.size ≤ maxLen) (h0 : ¬ 8000 < nm.size) (h00 : ¬ 8000 < vl.size) (hlc : c.log.length ≤ lc) (hcr : cliRight c = true) (ht : ¬ c.clock = 1000000) (hop : opRight ⟨c.clock + 1, c.repl, kd, x, p, nm, vl⟩ = true) (hadm : ∀ W, Below w.heap.size w W → Calls Tryz.prog 77 #[.slice la c.log.length lc, .agg #[.int .i64 (c.clock + 1), .int .i64 c.repl, .int .i64 kd, .int .i64 x, .int .i64 p, .string nm, .string vl]] W fun e w' => e = .returned .nilIface ∧ Below W.heap.size W w') (hnf : ¬ c.out.length = 30) (hfu : ¬ 150 ≤ c.log.length) : Calls Tryz.prog 47 #[.pointer (some ⟨g, 0, none⟩), .agg #[.int .i64 0, .int .i64 0, .int .i64 kd, .int .i64 x, .int .i64 p, .string nm, .string vl]] w fun e w' => ∃ va oa2 oc2, e = .returned (.tuple #[.agg #[.int .i64 (c.clock + 1), .int .i64 c.repl, .int .i64 kd, .int .i64 x, .int .i64 p, .string nm, .string vl], .nilIface]) ∧ HandAt w' g (putC c ⟨c.clock + 1, c.repl, kd, x, p, nm, vl⟩) va (c.log ++ [(⟨c.clock + 1, c.repl, kd, x, p, nm, vl⟩ : OpV)]).length oa2 oc2 ∧ w.grownBy w' (some g) ∧ OpsAt w' va (c.log ++ [(⟨c.clock + 1, c.repl, kd, x, p, nm, vl⟩ : OpV)]) ∧ OpsAt w' oa2 (c.out ++ [(⟨c.clock + 1, c.repl, kd, x, p, nm, vl⟩ : OpV)]) := by
  have HB0 := hide (AcS.new w 0 0 kd x p nm vl)
  have HH := hide hH
  have hgl := hH.lt
  have hlow := hS.low 6 (by omega)
  obtain ⟨p0, p1, p2, p3, p4, p5, fz⟩ := (hH.step HB0.out.below).cells
  obtain ⟨q0, q1, q2, q3, q4, q5, q6, _⟩ := cells7f HB0.out.op
  obtain ⟨z0, z1, z2, z3, z4, z5, z6, zf⟩ := cells7f HB0.out.res
  have d0 : decide (8000 < nm.size) = false := by simpa using h0
  have d0' : decide ((8000 : Int) < (nm.size : Int)) = false := by simpa using (show ¬ (8000 : Int) < (nm.size : Int) by omega)
  have e0 : decide (8000 < vl.size) = false := by simpa using h00
  have e0' : decide ((8000 : Int) < (vl.size : Int)) = false := by simpa using (show ¬ (8000 : Int) < (vl.size : Int) by omega)
  have hr := fun W (hW : Below w.heap.size w W) => iRight_any c la oa lc oc W hz (hA.stays hW) (hC.stays hW)
  rw [hcr] at hr
  have HR := hide hr
  obtain ⟨T9, hT9⟩ : ∃ T9, T9 = c.clock + 1 := ⟨_, rfl⟩
  have hR := (cliR_iff c).1 hcr
  have hk0 := hR.clock
  have hlog := log_yes hR.log
  have hl150 := hR.log.2.1
  have ho30 := hR.few
  have hwk : wrap64 (c.clock + 1) = T9 := by unfold wrap64; omega
  have hwk2 : IntKind.i64.wrap (c.clock + 1) = T9 := by rw [IntKind.wrap_i64]; omega
  have dt : (c.clock == 1000000) = false := by simpa using ht
  have hio := fun W => iOp_any ⟨T9, c.repl, kd, x, p, nm, vl⟩ W hnm hvl
  dsimp only [OpV.agg] at hio
  rw [← hT9] at hop
  rw [hop] at hio
  have HO := hide hio
  rw [← hT9] at hadm
  have HAd := hide hadm
  have f1 : (c.out.length == 30) = false := by simpa using hnf
  have f2 : ((c.out.length : Int) == 30) = false := by simpa using (show ¬ (c.out.length : Int) = 30 by omega)
  have hN9 : ∀ W : World, OpsAt (W.alloc (.cells #[.int .i64 T9, .int .i64 c.repl, .int .i64 kd, .int .i64 x, .int .i64 p, .string nm, .string vl] 30)) (some ⟨W.heap.size, 0, none⟩) [(⟨T9, c.repl, kd, x, p, nm, vl⟩ : OpV)] := fun W => one_ops W ⟨T9, c.repl, kd, x, p, nm, vl⟩ 30
  have hSz1 : Sized [(⟨T9, c.repl, kd, x, p, nm, vl⟩ : OpV)] := fun o ho => by rw [List.mem_singleton.1 ho]; exact ⟨hnm, hvl⟩
  have hlr := log_last (l := c.log) (o := ⟨T9, c.repl, kd, x, p, nm, vl⟩) hlog hop (fun y hy => by have := hR.times y hy; show y.time < T9; omega)
  have hla := fun W B (hW : Below w.heap.size w W) (hN : OpsAt W (some ⟨B, 0, none⟩) [(⟨T9, c.repl, kd, x, p, nm, vl⟩ : OpV)]) => iLogAdd_any c.log [⟨T9, c.repl, kd, x, p, nm, vl⟩] la (some ⟨B, 0, none⟩) lc 1 W hz.log (by show (1 : Nat) ≤ maxLen; unfold maxLen; omega) hlc (Nat.le_refl _) (hA.stays hW) hN hz.lsz hSz1
  rw [hlr] at hla
  rw [if_neg hfu] at hla
  obtain ⟨zl, hzl⟩ : ∃ z, z = c.log ++ [(⟨T9, c.repl, kd, x, p, nm, vl⟩ : OpV)] := ⟨_, rfl⟩
  obtain ⟨zo, hzo⟩ : ∃ z, z = c.out ++ [(⟨T9, c.repl, kd, x, p, nm, vl⟩ : OpV)] := ⟨_, rfl⟩
  rw [← hzl] at hla
  have hwi : ∀ (W : World) (B : Nat), Below w.heap.size w W → OpsAt W (some ⟨B, 0, none⟩) [(⟨T9, c.repl, kd, x, p, nm, vl⟩ : OpV)] → Calls Tryz.prog 78 #[.slice la c.log.length lc, .slice (some ⟨B, 0, none⟩) 1 1] W fun e w' => ∃ va, e = .returned (.tuple #[.slice va zl.length zl.length, .int .i64 1, .nilIface]) ∧ OpsAt w' va zl ∧ (∀ a, va = some a → W.heap.size ≤ a.block) ∧ Below W.heap.size W w' := fun W B hW hN => with_ok c.log [⟨T9, c.repl, kd, x, p, nm, vl⟩] la (some ⟨B, 0, none⟩) lc 1 W (zl, 1, 0) rfl (hla W B hW hN)
  have hcc : ∀ (W : World) (ga B : Nat), Below w.heap.size w W → ga < W.heap.size → W.cell? ⟨ga, 0, none⟩ = some (.slice oa c.out.length oc) → W.cell? ⟨ga, 1, none⟩ = some (.slice (some ⟨B, 0, none⟩) 1 1) → OpsAt W (some ⟨B, 0, none⟩) [(⟨T9, c.repl, kd, x, p, nm, vl⟩ : OpV)] → Calls Tryz.prog 79 #[.slice (some ⟨ga, 0, none⟩) 2 2] W fun e w' => ∃ v, e = .returned v ∧ w'.ownsRow W.heap.size 30 7 v zo.length (flat zo) ∧ Below W.heap.size W w' := fun W ga B hW hg h0 h1 hN => by
    rw [hzo]
    exact concat_any c.out [⟨T9, c.repl, kd, x, p, nm, vl⟩] oa (some ⟨B, 0, none⟩) oc 1 ga W (by omega) (by show (1 : Nat) ≤ 400; omega) hg h0 h1 (hC.stays hW) hN
  have HWi := hide hwi
  have HCc := hide hcc
  have HN9 := hide hN9
  have HZL := hide hzl
  have HZO := hide hzo
  rw [← hT9]
  unfold errV CliV.hand at *
  clear hS hA hC hz hH hadm hnf hR hk0 hlog hl150 ho30 hio hop hT9 ht hcr hr hfu hla hwi hcc hN9 hlr hSz1 hzl hzo
  go_enter Tryz.func47, Tryz.ntmps47
  go_wp2_with (first | (go_at_call 75; (refine (HR.out _ HB0.out.below).mono ?_); rintro e w1 ⟨rfl, hb1⟩; have HB1 := hide (HB0.out.step hb1); clear p0 p1 p2 p3 p4 p5 fz q0 q1 q2 q3 q4 q5 q6 z0 z1 z2 z3 z4 z5 z6 zf hb1; obtain ⟨p0, p1, p2, p3, p4, p5, fz⟩ := (HH.out.step HB1.out.below).cells; obtain ⟨q0, q1, q2, q3, q4, q5, q6, _⟩ := cells7f HB1.out.op; obtain ⟨z0, z1, z2, z3, z4, z5, z6, zf⟩ := cells7f HB1.out.res; have s20 := hand2 (HH.out.step HB1.out.below.drew); have s21 := hand2 ((HandAt.away (i := 0) (v := .int .i64 T9) (HH.out.step HB1.out.below) (show g ≠ w.heap.size by omega)).step (Below.refl _ _).drew); have s22 := hand2 ((HandAt.away (i := 1) (v := .int .i64 c.repl) (HandAt.away (i := 0) (v := .int .i64 T9) (HH.out.step HB1.out.below) (show g ≠ w.heap.size by omega)) (show g ≠ w.heap.size by omega)).step (Below.refl _ _).drew)) | fail)
  go_region_held3 (fun W => W.cell? ⟨g, 2, none⟩ = some (.int .i64 c.clock) ∧ W.cell? ⟨g, 1, none⟩ = some (.int .i64 c.repl)) (first | with_reducible exact s20 | with_reducible exact s21 | with_reducible exact s22) (fail)
  obtain ⟨X, hX⟩ : ∃ X, ((w1.setCell ⟨w.heap.size, 0, none⟩ (.int .i64 T9)).setCell ⟨w.heap.size, 1, none⟩ (.int .i64 c.repl)).drew = X := ⟨_, rfl⟩
  have hBX : AcS w X T9 c.repl kd x p nm vl := by rw [← hX]; exact (HB1.out.set01 T9 c.repl).step (Below.refl _ _).drew
  rw [hX]
  have HB2 := hide hBX
  clear hX hBX s20 s21 s22
  try clear p0 p1 p2 p3 p4 p5 fz q0 q1 q2 q3 q4 q5 q6
  try clear z0 z1 z2 z3 z4 z5 z6 zf
  obtain ⟨p0, p1, p2, p3, p4, p5, fz⟩ := (HH.out.step HB2.out.below).cells
  obtain ⟨q0, q1, q2, q3, q4, q5, q6, _⟩ := cells7f HB2.out.op
  obtain ⟨z0, z1, z2, z3, z4, z5, z6, zf⟩ := cells7f HB2.out.res
  go_wp2_with (first | (go_at_call 76; (refine (HO.out _).mono ?_); rintro e w3 ⟨rfl, hb3⟩; have HB3 := hide (HB2.out.step hb3); clear p0 p1 p2 p3 p4 p5 fz q0 q1 q2 q3 q4 q5 q6 z0 z1 z2 z3 z4 z5 z6 zf hb3; obtain ⟨p0, p1, p2, p3, p4, p5, fz⟩ := (HH.out.step HB3.out.below).cells; obtain ⟨q0, q1, q2, q3, q4, q5, q6, _⟩ := cells7f HB3.out.op; obtain ⟨z0, z1, z2, z3, z4, z5, z6, zf⟩ := cells7f HB3.out.res) | fail)
  have b3d := HB3.out.below.drew
  have s0 := askS (HB3.out.step (Below.refl _ _).drew) (HH.out.step HB3.out.below.drew)
  have s1 := s0
  unfold AskS at s0 s1
  go_region_held3 (fun W => W.cell? ⟨g, 0, none⟩ = some (.slice la c.log.length lc) ∧ W.cell? ⟨w.heap.size, 0, none⟩ = some (.int .i64 T9) ∧ W.cell? ⟨w.heap.size, 1, none⟩ = some (.int .i64 c.repl) ∧ W.cell? ⟨w.heap.size, 2, none⟩ = some (.int .i64 kd) ∧ W.cell? ⟨w.heap.size, 3, none⟩ = some (.int .i64 x) ∧ W.cell? ⟨w.heap.size, 4, none⟩ = some (.int .i64 p) ∧ W.cell? ⟨w.heap.size, 5, none⟩ = some (.string nm) ∧ W.cell? ⟨w.heap.size, 6, none⟩ = some (.string vl)) (first | with_reducible exact s0 | with_reducible exact s1) (first | (go_at_call 77; (first | with_reducible refine (HAd.out _ b3d).mono ?_ | refine (HAd.out _ HB3.out.below).mono ?_); rintro e w4 ⟨rfl, hb4⟩; have HB4 := hide (HB3.out.step (drewB9 hb4)); clear s1 hb4; have s1 := askS HB4.out (HH.out.step HB4.out.below); unfold AskS at s1; clear p0 p1 p2 p3 p4 p5 fz q0 q1 q2 q3 q4 q5 q6 z0 z1 z2 z3 z4 z5 z6 zf; obtain ⟨p0, p1, p2, p3, p4, p5, fz⟩ := (HH.out.step HB4.out.below).cells; obtain ⟨q0, q1, q2, q3, q4, q5, q6, _⟩ := cells7f HB4.out.op; obtain ⟨z0, z1, z2, z3, z4, z5, z6, zf⟩ := cells7f HB4.out.res) | fail)
  go_wp2
  have b4d := (HB4.out.below.alloc HB4.out.below.size (.cells #[.int .i64 T9, .int .i64 c.repl, .int .i64 kd, .int .i64 x, .int .i64 p, .string nm, .string vl] 30)).drew
  have s0 := askS (HB4.out.step (Below.refl _ _).drew) (HH.out.step HB4.out.below.drew)
  have s1 := askAl (askS HB4.out (HH.out.step HB4.out.below)) (Nat.lt_of_succ_lt HB4.out.lt) (Nat.lt_of_lt_of_le hgl HB4.out.below.size) (.cells #[.int .i64 T9, .int .i64 c.repl, .int .i64 kd, .int .i64 x, .int .i64 p, .string nm, .string vl] 30)
  have s2 := s1
  have n4 := (HN9.out w4).stays (Below.refl _ _).drew
  unfold AskS at s0 s1 s2
  go_region_held3 (fun W => W.cell? ⟨g, 0, none⟩ = some (.slice la c.log.length lc) ∧ W.cell? ⟨w.heap.size, 0, none⟩ = some (.int .i64 T9) ∧ W.cell? ⟨w.heap.size, 1, none⟩ = some (.int .i64 c.repl) ∧ W.cell? ⟨w.heap.size, 2, none⟩ = some (.int .i64 kd) ∧ W.cell? ⟨w.heap.size, 3, none⟩ = some (.int .i64 x) ∧ W.cell? ⟨w.heap.size, 4, none⟩ = some (.int .i64 p) ∧ W.cell? ⟨w.heap.size, 5, none⟩ = some (.string nm) ∧ W.cell? ⟨w.heap.size, 6, none⟩ = some (.string vl)) (first | with_reducible exact s0 | with_reducible exact s1 | with_reducible exact s2) (first | (go_at_call 78; (with_reducible refine (HWi.out _ w4.heap.size b4d n4).mono ?_); rintro e w5 ⟨va, rfl, hxa, hxb, hb5⟩; have hq5 := ((Below.refl w4.heap.size w4).alloc (Nat.le_refl _) (.cells #[.int .i64 T9, .int .i64 c.repl, .int .i64 kd, .int .i64 x, .int .i64 p, .string nm, .string vl] 30)).drew.trans (hb5.mono (by simp [World.drew])); have HB5 := hide (HB4.out.step hq5); have HXA := hide hxa; have HXB := hide hxb; clear s2 hb5 hq5 hxa hxb; have s2 := askS HB5.out (HH.out.step HB5.out.below); unfold AskS at s2; clear p0 p1 p2 p3 p4 p5 fz q0 q1 q2 q3 q4 q5 q6 z0 z1 z2 z3 z4 z5 z6 zf; obtain ⟨p0, p1, p2, p3, p4, p5, fz⟩ := (HH.out.step HB5.out.below).cells; obtain ⟨q0, q1, q2, q3, q4, q5, q6, _⟩ := cells7f HB5.out.op; obtain ⟨z0, z1, z2, z3, z4, z5, z6, zf⟩ := cells7f HB5.out.res) | fail)
  go_wp2
  have o5 := HB5.out.op
  have b5d := ((HB5.out.below.alloc HB5.out.below.size (.cells #[.int .i64 T9, .int .i64 c.repl, .int .i64 kd, .int .i64 x, .int .i64 p, .string nm, .string vl] 30)).alloc (Nat.le_trans HB5.out.below.size (by simp)) (.cells #[.slice oa c.out.length oc, .slice (some ⟨w5.heap.size, 0, none⟩) 1 1] 26)).drew
  have g5 : w5.heap.size + 1 < ((w5.alloc (.cells #[.int .i64 T9, .int .i64 c.repl, .int .i64 kd, .int .i64 x, .int .i64 p, .string nm, .string vl] 30)).alloc (.cells #[.slice oa c.out.length oc, .slice (some ⟨w5.heap.size, 0, none⟩) 1 1] 26)).drew.heap.size := by simp [World.drew]
  obtain ⟨h50', h51'⟩ := two_c (heap_alloc_new (w5.alloc (.cells #[.int .i64 T9, .int .i64 c.repl, .int .i64 kd, .int .i64 x, .int .i64 p, .string nm, .string vl] 30)) (.cells #[.slice oa c.out.length oc, .slice (some ⟨w5.heap.size, 0, none⟩) 1 1] 26))
  rw [show (w5.alloc (.cells #[.int .i64 T9, .int .i64 c.repl, .int .i64 kd, .int .i64 x, .int .i64 p, .string nm, .string vl] 30)).heap.size = w5.heap.size + 1 by simp] at h50' h51'
  have h50 : ((w5.alloc (.cells #[.int .i64 T9, .int .i64 c.repl, .int .i64 kd, .int .i64 x, .int .i64 p, .string nm, .string vl] 30)).alloc (.cells #[.slice oa c.out.length oc, .slice (some ⟨w5.heap.size, 0, none⟩) 1 1] 26)).drew.cell? ⟨w5.heap.size + 1, 0, none⟩ = some (.slice oa c.out.length oc) := h50'
  have h51 : ((w5.alloc (.cells #[.int .i64 T9, .int .i64 c.repl, .int .i64 kd, .int .i64 x, .int .i64 p, .string nm, .string vl] 30)).alloc (.cells #[.slice oa c.out.length oc, .slice (some ⟨w5.heap.size, 0, none⟩) 1 1] 26)).drew.cell? ⟨w5.heap.size + 1, 1, none⟩ = some (.slice (some ⟨w5.heap.size, 0, none⟩) 1 1) := h51'
  clear h50' h51'
  have n5 := (((HN9.out w5).stays ((Below.refl (w5.alloc (.cells #[.int .i64 T9, .int .i64 c.repl, .int .i64 kd, .int .i64 x, .int .i64 p, .string nm, .string vl] 30)).heap.size (w5.alloc (.cells #[.int .i64 T9, .int .i64 c.repl, .int .i64 kd, .int .i64 x, .int .i64 p, .string nm, .string vl] 30))).alloc (Nat.le_refl _) (.cells #[.slice oa c.out.length oc, .slice (some ⟨w5.heap.size, 0, none⟩) 1 1] 26))).stays (Below.refl _ _).drew)
  have o50 := op_seven ((((Below.refl w5.heap.size w5)).drew.block _ (Nat.lt_of_succ_lt HB5.out.lt)).trans o5)
  have o51 := op_seven ((((Below.refl w5.heap.size w5).alloc (Nat.le_refl _) (.cells #[.int .i64 T9, .int .i64 c.repl, .int .i64 kd, .int .i64 x, .int .i64 p, .string nm, .string vl] 30)).drew.block _ (Nat.lt_of_succ_lt HB5.out.lt)).trans o5)
  have o52 := op_seven (((((Below.refl w5.heap.size w5).alloc (Nat.le_refl _) (.cells #[.int .i64 T9, .int .i64 c.repl, .int .i64 kd, .int .i64 x, .int .i64 p, .string nm, .string vl] 30)).alloc (by simp) (.cells #[.slice oa c.out.length oc, .slice (some ⟨w5.heap.size, 0, none⟩) 1 1] 26)).drew.block _ (Nat.lt_of_succ_lt HB5.out.lt)).trans o5)
  have o53 := o52
  have pa4 : ∀ ob, (w5.alloc ob).cell? ⟨g, 4, none⟩ = some (.slice oa c.out.length oc) := fun ob => (HH.out.step (HB5.out.below.alloc HB5.out.below.size ob)).cells.2.2.2.2.1
  have po5 : ∀ ob, _ := fun ob => op_seven ((HB5.out.step ((Below.refl w5.heap.size w5).alloc (Nat.le_refl _) ob)).op)
  obtain ⟨o520, o521, o522, o523, o524, o525, o526⟩ := o52
  clear o50 o51 o53
  try clear d0
  try clear d0'
  try clear e0
  try clear e0'
  try clear HR
  try clear HO
  try clear HAd
  try clear HWi
  try clear h0
  try clear h00
  try clear dt
  try clear hwk
  try clear hwk2
  try clear f1
  try clear f2
  try clear b3d
  try clear s0
  try clear s1
  try clear b4d
  try clear s2
  try clear n4
  try clear hlow
  go_region_with (first | (go_at_call 79; (with_reducible refine (HCc.out _ (w5.heap.size + 1) w5.heap.size b5d g5 h50 h51 n5).mono ?_); rintro e w6 ⟨v6, rfl, ho6, hb6⟩; rw [show v6 = v6 from rfl] at ho6; obtain ⟨ao6, c6, rfl, _, hat6⟩ := owns_at ho6; have hlo6 := (fun a (e : ao6 = some a) => (ho6.lt a.block (by rw [e]; rfl)).1); have hq6 := (((Below.refl w5.heap.size w5).alloc (Nat.le_refl _) (.cells #[.int .i64 T9, .int .i64 c.repl, .int .i64 kd, .int .i64 x, .int .i64 p, .string nm, .string vl] 30)).alloc (by simp) (.cells #[.slice oa c.out.length oc, .slice (some ⟨w5.heap.size, 0, none⟩) 1 1] 26)).drew.trans (hb6.mono (by simp [World.drew]; omega)); have HB6 := hide (HB5.out.step hq6); have HA6 := hide (And.intro hat6 hlo6); have HQ6 := hide hq6; have o6 := HB6.out.op; clear ho6 hb6 hat6 hlo6 hq6; obtain ⟨o60, o61, o62, o63, o64, o65, o66⟩ := op_seven o6; try clear pa4 po5 o520 o521 o522 o523 o524 o525 o526; clear p0 p1 p2 p3 p4 p5 fz q0 q1 q2 q3 q4 q5 q6 z0 z1 z2 z3 z4 z5 z6 zf; obtain ⟨p0, p1, p2, p3, p4, p5, fz⟩ := (HH.out.step HB6.out.below).cells; obtain ⟨q0, q1, q2, q3, q4, q5, q6, _⟩ := cells7f HB6.out.op; obtain ⟨z0, z1, z2, z3, z4, z5, z6, zf⟩ := cells7f HB6.out.res) | fail)
  all_goals (
    go_wp2
    refine bodyPost_ret (v := .tuple #[.agg #[.int .i64 T9, .int .i64 c.repl, .int .i64 kd, .int .i64 x, .int .i64 p, .string nm, .string vl], .nilIface]) (by simp [results, Tryz.results47, go_sem, z0, z1, z2, z3, z4, z5, z6]) rfl ⟨va, ao6, c6, rfl, act_fin _ _ _ _ _ _ _ hgl HB6.out.below (HH.out.step HB6.out.below) (HXA.out.stays HQ6.out) HA6.out.1 (fun a e => ?_) (fun a e => ?_) HZL.out HZO.out rfl⟩
    · have h1 := HXB.out a e
      have h2 := HB4.out.lt
      simp [World.drew] at h1
      omega
    · have h1 := HA6.out.2 a e
      have h2 := HB5.out.lt
      simp [World.drew] at h1
      omega)
end Go.Proofs.YtfkgmkcndchkjaaGreatDoor.OpR
