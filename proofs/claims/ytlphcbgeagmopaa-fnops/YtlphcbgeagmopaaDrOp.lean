/- Proves what the draw of an op leaves: spec's (*l01Src).l02Op. -/
import Derived.Test.YtlphcbgeagmopaaDrL
namespace Go.Proofs.Ytlphcbgeagmopaa.OpR
open Go.ChangeShapes Go.WideShapes Go.ChangeAt Go.RowKit Go.ChangeMaps
open SrcR (Src)
set_option linter.unusedVariables false

set_option maxRecDepth 100000 in
set_option maxHeartbeats 16000000 in
theorem drOp_any (g : Nat) (w : World) (ao : Option Addr) (len cap : Nat) (hs : Src w g ao len cap) (hg : Dg w g ao len) :
    Calls Try.prog 65 #[.pointer (some ⟨g, 0, none⟩)] w fun e w' => ∃ o : OpV, e = .returned o.agg ∧ o.name.size ≤ 8000 ∧ o.value.size ≤ 8000 ∧ Dr w w' g ao len cap := by
  have HG := Hid.mk hg
  have hg0 := hg.lt
  have h0 : Dr w w g ao len cap := ⟨hs, grown_below' (Below.refl _ _)⟩
  have HD0 := Hid.mk (h0.alloc (.cells #[.int .i64 0, .int .i64 0, .int .i64 0, .int .i64 0, .int .i64 0, .string ⟨#[]⟩, .string ⟨#[]⟩] 40))
  have hr0 := heap_alloc_new w (.cells #[.int .i64 0, .int .i64 0, .int .i64 0, .int .i64 0, .int .i64 0, .string ⟨#[]⟩, .string ⟨#[]⟩] 40)
  have HR0 := Hid.mk hr0
  clear hs hg h0 hr0
  go_enter Try.func65, Try.ntmps65
  have N1 : Hid True := ⟨trivial⟩
  have N2 : Hid True := ⟨trivial⟩
  have N3 : Hid True := ⟨trivial⟩
  have N4 : Hid True := ⟨trivial⟩
  have P1 : Hid True := ⟨trivial⟩
  go_wp2_with (first | (go_at_call 61; clear N1; refine (n_dr HD0.out HG.out (by omega) (by omega)).mono ?_; rintro e x1 ⟨v1, rfl, hv1, hw1, hd1, hg1⟩; have HD1 := Hid.mk hd1; have HR1 := Hid.mk ((hg1.block w.heap.size (by simp) (fun e => by have := Option.some.inj e; omega)).trans HR0.out); clear hd1 hg1) | (go_at_call 61; clear N2; refine (n_dr HD1.out HG.out (by omega) (by omega)).mono ?_; rintro e x2 ⟨v2, rfl, hv2, hw2, hd2, hg2⟩; have HD2 := Hid.mk hd2; have HR2 := Hid.mk ((hg2.block w.heap.size (Array.getElem?_eq_some_iff.1 HR1.out).1 (fun e => by have := Option.some.inj e; omega)).trans HR1.out); clear hd2 hg2) | (go_at_call 61; clear N3; refine (n_dr HD2.out HG.out (by omega) (by omega)).mono ?_; rintro e x3 ⟨v3, rfl, hv3, hw3, hd3, hg3⟩; have HD3 := Hid.mk hd3; have HR3 := Hid.mk ((hg3.block w.heap.size (Array.getElem?_eq_some_iff.1 HR2.out).1 (fun e => by have := Option.some.inj e; omega)).trans HR2.out); clear hd3 hg3) | (go_at_call 61; clear N4; refine (n_dr HD3.out HG.out (by omega) (by omega)).mono ?_; rintro e x4 ⟨v4, rfl, hv4, hw4, hd4, hg4⟩; have HD4 := Hid.mk hd4; have HR4 := Hid.mk ((hg4.block w.heap.size (Array.getElem?_eq_some_iff.1 HR3.out).1 (fun e => by have := Option.some.inj e; omega)).trans HR3.out); clear hd4 hg4) | (go_at_call 113; clear P1; refine (pick_dr HD4.out HG.out HD4.out.grown.size).mono ?_; rintro e x5 ⟨nm, rfl, hnm, hd5, hg5⟩; have HD5 := Hid.mk hd5; have HNm := Hid.mk hnm; have hlt4 := (Array.getElem?_eq_some_iff.1 HR4.out).1; have HR5 := Hid.mk ((hg5.block w.heap.size (by simp; omega) (fun e => by have := Option.some.inj e; omega)).trans ((Below.heap_alloc _ _ _ hlt4).trans HR4.out)); clear hd5 hg5 hnm hlt4))
  obtain ⟨o, ho⟩ : ∃ o : OpV, o = ⟨1 + v1, 1 + v2, 1, 2 + v3, v4, nm, ⟨#[]⟩⟩ := ⟨_, rfl⟩
  have hon : o.name.size ≤ 1 ∧ o.value.size ≤ 1 := by
    rw [ho]
    refine ⟨?_, Nat.zero_le 1⟩
    show nm.size ≤ 1
    rcases HNm.out with h | h | h <;> rw [h] <;> decide
  have HV := Hid.mk (Dv.start HD5.out o HR5.out)
  have HOn := Hid.mk hon
  clear HD0 HD1 HD2 HD3 HD4 HR0 HR1 HR2 HR3 HR4 hon HNm
  rw [ho] at HV
  refine (one_dr HV.out.dr HG.out (by omega) (by omega)).mono ?_
  rintro e y ⟨b4, rfl, hdy, hgy⟩
  have HVy := Hid.mk (HV.out.call HG.out hdy hgy)
  rw [← ho] at HVy
  clear HV hdy hgy ho HD5 HR5
  obtain ⟨V, hV⟩ : ∃ V, V = x5.heap.size := ⟨_, rfl⟩
  rw [← hV] at HVy
  rw [← hV]
  have hVw := HVy.out.far
  have hVn1 : ¬ V = w.heap.size := by omega
  have hVn2 : ¬ w.heap.size = V := by omega
  clear hV
  cases b4
  · go_wp2_with fail
    obtain ⟨Y, hY⟩ : ∃ Y, Y = y := ⟨_, rfl⟩
    rw [← hY] at HVy ⊢
    obtain ⟨oc, hoc⟩ : ∃ oc, oc = o := ⟨_, rfl⟩
    rw [← hoc] at HVy HOn
    have HVc := HVy
    have HOc := HOn
    clear hY hoc HVy HOn
    refine (one_dr HVc.out.dr HG.out (by omega) (by omega)).mono ?_
    rintro e c ⟨b40, rfl, hdc, hgc⟩
    have HVd := Hid.mk (HVc.out.call HG.out hdc hgc)
    clear hdc hgc HVc
    obtain ⟨k0, k1, k2, k3, k4, k5, k6, z0, z1, z2, z3, z4, z5, z6⟩ := cells7 HVd.out.lies
    obtain ⟨q0, q1, q2, q3, q4, q5, q6, r0, r1, r2, r3, r4, r5, r6⟩ := cells7 HVd.out.res
    cases b40
    · go_wp2
      refine bodyPost_ret (v := oc.agg) (by simp [results, Try.results65, go_sem, q0, q1, q2, q3, q4, q5, q6, OpV.agg]) rfl ⟨oc, rfl, by have := HOc.out; omega, by have := HOc.out; omega, ?_⟩
      exact ((((((HVd.out.dr.set (Nat.le_refl _) hg0).set (Nat.le_refl _) hg0).set (Nat.le_refl _) hg0).set (Nat.le_refl _) hg0).set (Nat.le_refl _) hg0).set (Nat.le_refl _) hg0).set (Nat.le_refl _) hg0
    · clear k0 k1 k2 k3 k4 k5 k6 z0 z1 z2 z3 z4 z5 z6 q0 q1 q2 q3 q4 q5 q6 r0 r1 r2 r3 r4 r5 r6
      go_wp2_with fail
      refine (n_dr HVd.out.dr HG.out (by omega) (by omega)).mono ?_
      rintro e d ⟨v5, rfl, hv5, hw5, hdd, hgd⟩
      have HVe := Hid.mk (HVd.out.call HG.out hdd hgd)
      clear hdd hgd HVd
      rcases (show v5 = 0 ∨ v5 = 1 ∨ v5 = 2 ∨ v5 = 3 ∨ v5 = 4 by omega) with rfl | rfl | rfl | rfl | rfl
      · have HVf := Hid.mk (HVe.out.alloc (.cells #[.int .i64 0, .int .i64 1000000, .int .i64 1000001] 2))
        go_wp2_with fail
        refine (n_dr HVf.out.dr HG.out (by omega) (by omega)).mono ?_
        rintro e f ⟨v6, rfl, h60, h61, hdf, hgf⟩
        have HVh := Hid.mk (HVf.out.call HG.out hdf hgf)
        have hdl := HVe.out.lt
        obtain ⟨xv, hxv⟩ : ∃ xv : Int, (d.alloc (.cells #[.int .i64 0, .int .i64 1000000, .int .i64 1000001] 2)).cell? ⟨d.heap.size, v6.toNat, none⟩ = some (.int .i64 xv) := by
          rcases (show v6 = 0 ∨ v6 = 1 ∨ v6 = 2 by omega) with rfl | rfl | rfl
          · exact ⟨0, by simp⟩
          · exact ⟨1000000, by simp⟩
          · exact ⟨1000001, by simp⟩
        have hcell : f.cell? ⟨d.heap.size, v6.toNat, none⟩ = some (.int .i64 xv) := (cell_grown hgf (by simp) (by omega)).trans hxv
        clear hdf hgf hxv HVf HVe
        obtain ⟨k0, k1, k2, k3, k4, k5, k6, z0, z1, z2, z3, z4, z5, z6⟩ := cells7 HVh.out.lies
        obtain ⟨q0, q1, q2, q3, q4, q5, q6, r0, r1, r2, r3, r4, r5, r6⟩ := cells7 HVh.out.res
        have HVs := Hid.mk (HVh.out.set (o' := ⟨xv, oc.repl, oc.kind, oc.node, oc.parent, oc.name, oc.value⟩) HG.out 0 (.int .i64 xv) rfl)
        go_wp2
        refine bodyPost_ret (v := OpV.agg ⟨xv, oc.repl, oc.kind, oc.node, oc.parent, oc.name, oc.value⟩) (by simp [results, Try.results65, go_sem, q0, q1, q2, q3, q4, q5, q6, OpV.agg]) rfl ⟨⟨xv, oc.repl, oc.kind, oc.node, oc.parent, oc.name, oc.value⟩, rfl, ?_, ?_, ?_⟩
        · have := HOc.out; show oc.name.size ≤ 8000; omega
        · have := HOc.out; show oc.value.size ≤ 8000; omega
        · exact ((((((HVs.out.dr.set (Nat.le_refl _) hg0).set (Nat.le_refl _) hg0).set (Nat.le_refl _) hg0).set (Nat.le_refl _) hg0).set (Nat.le_refl _) hg0).set (Nat.le_refl _) hg0).set (Nat.le_refl _) hg0
      · have HVf := Hid.mk (HVe.out.alloc (.cells #[.int .i64 0, .int .i64 50, .int .i64 51] 2))
        go_wp2_with fail
        refine (n_dr HVf.out.dr HG.out (by omega) (by omega)).mono ?_
        rintro e f ⟨v6, rfl, h60, h61, hdf, hgf⟩
        have HVh := Hid.mk (HVf.out.call HG.out hdf hgf)
        have hdl := HVe.out.lt
        obtain ⟨xv, hxv⟩ : ∃ xv : Int, (d.alloc (.cells #[.int .i64 0, .int .i64 50, .int .i64 51] 2)).cell? ⟨d.heap.size, v6.toNat, none⟩ = some (.int .i64 xv) := by
          rcases (show v6 = 0 ∨ v6 = 1 ∨ v6 = 2 by omega) with rfl | rfl | rfl
          · exact ⟨0, by simp⟩
          · exact ⟨50, by simp⟩
          · exact ⟨51, by simp⟩
        have hcell : f.cell? ⟨d.heap.size, v6.toNat, none⟩ = some (.int .i64 xv) := (cell_grown hgf (by simp) (by omega)).trans hxv
        clear hdf hgf hxv HVf HVe
        obtain ⟨k0, k1, k2, k3, k4, k5, k6, z0, z1, z2, z3, z4, z5, z6⟩ := cells7 HVh.out.lies
        obtain ⟨q0, q1, q2, q3, q4, q5, q6, r0, r1, r2, r3, r4, r5, r6⟩ := cells7 HVh.out.res
        have HVs := Hid.mk (HVh.out.set (o' := ⟨oc.time, xv, oc.kind, oc.node, oc.parent, oc.name, oc.value⟩) HG.out 1 (.int .i64 xv) rfl)
        go_wp2
        refine bodyPost_ret (v := OpV.agg ⟨oc.time, xv, oc.kind, oc.node, oc.parent, oc.name, oc.value⟩) (by simp [results, Try.results65, go_sem, q0, q1, q2, q3, q4, q5, q6, OpV.agg]) rfl ⟨⟨oc.time, xv, oc.kind, oc.node, oc.parent, oc.name, oc.value⟩, rfl, ?_, ?_, ?_⟩
        · have := HOc.out; show oc.name.size ≤ 8000; omega
        · have := HOc.out; show oc.value.size ≤ 8000; omega
        · exact ((((((HVs.out.dr.set (Nat.le_refl _) hg0).set (Nat.le_refl _) hg0).set (Nat.le_refl _) hg0).set (Nat.le_refl _) hg0).set (Nat.le_refl _) hg0).set (Nat.le_refl _) hg0).set (Nat.le_refl _) hg0
      · have HVf := Hid.mk (HVe.out.alloc (.cells #[.int .i64 1, .int .i64 1000000, .int .i64 1000001] 2))
        go_wp2_with fail
        refine (n_dr HVf.out.dr HG.out (by omega) (by omega)).mono ?_
        rintro e f ⟨v6, rfl, h60, h61, hdf, hgf⟩
        have HVh := Hid.mk (HVf.out.call HG.out hdf hgf)
        have hdl := HVe.out.lt
        obtain ⟨xv, hxv⟩ : ∃ xv : Int, (d.alloc (.cells #[.int .i64 1, .int .i64 1000000, .int .i64 1000001] 2)).cell? ⟨d.heap.size, v6.toNat, none⟩ = some (.int .i64 xv) := by
          rcases (show v6 = 0 ∨ v6 = 1 ∨ v6 = 2 by omega) with rfl | rfl | rfl
          · exact ⟨1, by simp⟩
          · exact ⟨1000000, by simp⟩
          · exact ⟨1000001, by simp⟩
        have hcell : f.cell? ⟨d.heap.size, v6.toNat, none⟩ = some (.int .i64 xv) := (cell_grown hgf (by simp) (by omega)).trans hxv
        clear hdf hgf hxv HVf HVe
        obtain ⟨k0, k1, k2, k3, k4, k5, k6, z0, z1, z2, z3, z4, z5, z6⟩ := cells7 HVh.out.lies
        obtain ⟨q0, q1, q2, q3, q4, q5, q6, r0, r1, r2, r3, r4, r5, r6⟩ := cells7 HVh.out.res
        have HVs := Hid.mk (HVh.out.set (o' := ⟨oc.time, oc.repl, oc.kind, xv, oc.parent, oc.name, oc.value⟩) HG.out 3 (.int .i64 xv) rfl)
        go_wp2
        refine bodyPost_ret (v := OpV.agg ⟨oc.time, oc.repl, oc.kind, xv, oc.parent, oc.name, oc.value⟩) (by simp [results, Try.results65, go_sem, q0, q1, q2, q3, q4, q5, q6, OpV.agg]) rfl ⟨⟨oc.time, oc.repl, oc.kind, xv, oc.parent, oc.name, oc.value⟩, rfl, ?_, ?_, ?_⟩
        · have := HOc.out; show oc.name.size ≤ 8000; omega
        · have := HOc.out; show oc.value.size ≤ 8000; omega
        · exact ((((((HVs.out.dr.set (Nat.le_refl _) hg0).set (Nat.le_refl _) hg0).set (Nat.le_refl _) hg0).set (Nat.le_refl _) hg0).set (Nat.le_refl _) hg0).set (Nat.le_refl _) hg0).set (Nat.le_refl _) hg0
      · go_wp2_with fail
        refine (n_dr HVe.out.dr HG.out (by omega) (by omega)).mono ?_
        rintro e f ⟨v6, rfl, h60, h61, hdf, hgf⟩
        have HVh := Hid.mk (HVe.out.call HG.out hdf hgf)
        clear hdf hgf HVe
        have hfV := HVh.out.lt
        have hfR : w.heap.size < f.heap.size := by omega
        have hfR2 : ¬ w.heap.size = f.heap.size := by omega
        have hfR3 : ¬ f.heap.size = w.heap.size := by omega
        have hfV2 : ¬ V = f.heap.size := by omega
        have hfV3 : ¬ f.heap.size = V := by omega
        obtain ⟨n, hn⟩ : ∃ n : Nat, (n : Int) = 40 + v6 := ⟨(40 + v6).toNat, by omega⟩
        have hn1 : n ≤ 41 := by omega
        have hmk : ∀ w, (Instr.makeSlice 22 (.int .i64 (40 + v6)) (.int .i64 (40 + v6))).run Try.prog w = .ok (.slice (some ⟨w.heap.size, 0, none⟩) n n) (w.alloc (.cells (madeCells #[.int .u8 0] n) 5)) := fun w => by rw [← hn]; exact make_bytes n (by omega) w
        have hcv := fun W => conv_zeros W n
        obtain ⟨Z, hZ⟩ : ∃ Z : ByteArray, Z = ⟨(List.replicate n (0 : UInt8)).toArray⟩ := ⟨_, rfl⟩
        have hZs : Z.size ≤ 8000 := by
          rw [hZ]
          show (List.replicate n (0 : UInt8)).toArray.size ≤ 8000
          simp
          omega
        simp only [← hZ] at hcv
        clear hZ
        obtain ⟨MC, hMC⟩ : ∃ MC : Array Value, MC = madeCells #[.int .u8 0] n := ⟨_, rfl⟩
        simp only [← hMC] at hmk hcv
        clear hMC hn
        replace hmk := hmk f
        replace hcv := hcv f
        have HVa := HVh.out.alloc (.cells MC 5)
        obtain ⟨F, hF⟩ : ∃ F, F = f.alloc (.cells MC 5) := ⟨_, rfl⟩
        rw [← hF] at hmk hcv HVa
        have HVF := Hid.mk HVa
        obtain ⟨k0, k1, k2, k3, k4, k5, k6, z0, z1, z2, z3, z4, z5, z6⟩ := cells7 HVa.lies
        obtain ⟨q0, q1, q2, q3, q4, q5, q6, r0, r1, r2, r3, r4, r5, r6⟩ := cells7 HVa.res
        clear hF HVa
        go_wp2
        refine bodyPost_ret (v := OpV.agg ⟨oc.time, oc.repl, oc.kind, oc.node, oc.parent, oc.name, Z⟩) (by simp [results, Try.results65, go_sem, q0, q1, q2, q3, q4, q5, q6, OpV.agg]) rfl ⟨⟨oc.time, oc.repl, oc.kind, oc.node, oc.parent, oc.name, Z⟩, rfl, ?_, ?_, ?_⟩
        · have := HOc.out; show oc.name.size ≤ 8000; omega
        · exact hZs
        · exact ((((((((HVF.out).set (o' := ⟨oc.time, oc.repl, oc.kind, oc.node, oc.parent, oc.name, Z⟩) HG.out 6 (.string Z) rfl).dr.set (Nat.le_refl _) hg0).set (Nat.le_refl _) hg0).set (Nat.le_refl _) hg0).set (Nat.le_refl _) hg0).set (Nat.le_refl _) hg0).set (Nat.le_refl _) hg0).set (Nat.le_refl _) hg0
      · have HVf := Hid.mk (HVe.out.alloc (.cells #[.int .i64 0, .int .i64 3] 2))
        go_wp2_with fail
        refine (n_dr HVf.out.dr HG.out (by omega) (by omega)).mono ?_
        rintro e f ⟨v6, rfl, h60, h61, hdf, hgf⟩
        have HVh := Hid.mk (HVf.out.call HG.out hdf hgf)
        have hdl := HVe.out.lt
        obtain ⟨xv, hxv⟩ : ∃ xv : Int, (d.alloc (.cells #[.int .i64 0, .int .i64 3] 2)).cell? ⟨d.heap.size, v6.toNat, none⟩ = some (.int .i64 xv) := by
          rcases (show v6 = 0 ∨ v6 = 1 by omega) with rfl | rfl
          · exact ⟨0, by simp⟩
          · exact ⟨3, by simp⟩
        have hcell : f.cell? ⟨d.heap.size, v6.toNat, none⟩ = some (.int .i64 xv) := (cell_grown hgf (by simp) (by omega)).trans hxv
        clear hdf hgf hxv HVf HVe
        obtain ⟨k0, k1, k2, k3, k4, k5, k6, z0, z1, z2, z3, z4, z5, z6⟩ := cells7 HVh.out.lies
        obtain ⟨q0, q1, q2, q3, q4, q5, q6, r0, r1, r2, r3, r4, r5, r6⟩ := cells7 HVh.out.res
        have HVs := Hid.mk (HVh.out.set (o' := ⟨oc.time, oc.repl, xv, oc.node, oc.parent, oc.name, oc.value⟩) HG.out 2 (.int .i64 xv) rfl)
        go_wp2
        refine bodyPost_ret (v := OpV.agg ⟨oc.time, oc.repl, xv, oc.node, oc.parent, oc.name, oc.value⟩) (by simp [results, Try.results65, go_sem, q0, q1, q2, q3, q4, q5, q6, OpV.agg]) rfl ⟨⟨oc.time, oc.repl, xv, oc.node, oc.parent, oc.name, oc.value⟩, rfl, ?_, ?_, ?_⟩
        · have := HOc.out; show oc.name.size ≤ 8000; omega
        · have := HOc.out; show oc.value.size ≤ 8000; omega
        · exact ((((((HVs.out.dr.set (Nat.le_refl _) hg0).set (Nat.le_refl _) hg0).set (Nat.le_refl _) hg0).set (Nat.le_refl _) hg0).set (Nat.le_refl _) hg0).set (Nat.le_refl _) hg0).set (Nat.le_refl _) hg0
  · have hF0 := HVy.out.drew.four
    have hFa := fun ob => (HVy.out.alloc ob).drew.four
    go_wp2_with fail
    go_region_held3 (fun w' => w'.cell? ⟨V, 0, none⟩ = some (.int .i64 o.time) ∧ w'.cell? ⟨V, 1, none⟩ = some (.int .i64 o.repl) ∧ w'.cell? ⟨V, 3, none⟩ = some (.int .i64 o.node) ∧ w'.cell? ⟨V, 5, none⟩ = some (.string o.name)) (first | with_reducible exact hF0 | with_reducible exact hFa _ | with_reducible exact hFz | with_reducible exact hFs) (first | (go_at_call 113; refine (pick_dr HVy.out.drew.dr HG.out HVy.out.dr.grown.size).mono ?_; rintro e z ⟨tv, rfl, htv, hdz, hgz⟩; have HVz := Hid.mk ((HVy.out.drew.alloc _).call HG.out hdz hgz); have HTv := Hid.mk htv; clear hdz hgz htv; have hFz := HVz.out.four; have HVs := Hid.mk (((((((HVz.out.set (o' := ⟨o.time, o.repl, o.kind, o.node, o.parent, o.name, o.value⟩) HG.out 0 (.int .i64 o.time) rfl).set (o' := ⟨o.time, o.repl, o.kind, o.node, o.parent, o.name, o.value⟩) HG.out 1 (.int .i64 o.repl) rfl).set (o' := ⟨o.time, o.repl, 2, o.node, o.parent, o.name, o.value⟩) HG.out 2 (.int .i64 2) rfl).set (o' := ⟨o.time, o.repl, 2, o.node, o.parent, o.name, o.value⟩) HG.out 3 (.int .i64 o.node) rfl).set (o' := ⟨o.time, o.repl, 2, o.node, 0, o.name, o.value⟩) HG.out 4 (.int .i64 0) rfl).set (o' := ⟨o.time, o.repl, 2, o.node, 0, o.name, o.value⟩) HG.out 5 (.string o.name) rfl).set (o' := ⟨o.time, o.repl, 2, o.node, 0, o.name, tv⟩) HG.out 6 (.string tv) rfl); have hFs := HVs.out.four; obtain ⟨k0, k1, k2, k3, k4, k5, k6, z0, z1, z2, z3, z4, z5, z6⟩ := cells7 HVz.out.lies))
    obtain ⟨Y, hY⟩ : ∃ Y, Y = (((((((z.setCell ⟨V, 0, none⟩ (.int .i64 o.time)).setCell ⟨V, 1, none⟩ (.int .i64 o.repl)).setCell ⟨V, 2, none⟩ (.int .i64 2)).setCell ⟨V, 3, none⟩ (.int .i64 o.node)).setCell ⟨V, 4, none⟩ (.int .i64 0)).setCell ⟨V, 5, none⟩ (.string o.name)).setCell ⟨V, 6, none⟩ (.string tv)) := ⟨_, rfl⟩
    rw [← hY] at HVs ⊢
    obtain ⟨oc, hoc⟩ : ∃ oc : OpV, oc = ⟨o.time, o.repl, 2, o.node, 0, o.name, tv⟩ := ⟨_, rfl⟩
    have HOc : Hid (oc.name.size ≤ 1 ∧ oc.value.size ≤ 1) := ⟨by
      rw [hoc]
      refine ⟨HOn.out.1, ?_⟩
      show tv.size ≤ 1
      rcases HTv.out with h | h | h <;> rw [h] <;> decide⟩
    rw [← hoc] at HVs
    have HVc := HVs
    clear hY hoc HVs HOn HVy HVz hF0 hFa hFz hFs k0 k1 k2 k3 k4 k5 k6 z0 z1 z2 z3 z4 z5 z6
    go_wp2_with fail
    refine (one_dr HVc.out.dr HG.out (by omega) (by omega)).mono ?_
    rintro e c ⟨b40, rfl, hdc, hgc⟩
    have HVd := Hid.mk (HVc.out.call HG.out hdc hgc)
    clear hdc hgc HVc
    obtain ⟨k0, k1, k2, k3, k4, k5, k6, z0, z1, z2, z3, z4, z5, z6⟩ := cells7 HVd.out.lies
    obtain ⟨q0, q1, q2, q3, q4, q5, q6, r0, r1, r2, r3, r4, r5, r6⟩ := cells7 HVd.out.res
    cases b40
    · go_wp2
      refine bodyPost_ret (v := oc.agg) (by simp [results, Try.results65, go_sem, q0, q1, q2, q3, q4, q5, q6, OpV.agg]) rfl ⟨oc, rfl, by have := HOc.out; omega, by have := HOc.out; omega, ?_⟩
      exact ((((((HVd.out.dr.set (Nat.le_refl _) hg0).set (Nat.le_refl _) hg0).set (Nat.le_refl _) hg0).set (Nat.le_refl _) hg0).set (Nat.le_refl _) hg0).set (Nat.le_refl _) hg0).set (Nat.le_refl _) hg0
    · clear k0 k1 k2 k3 k4 k5 k6 z0 z1 z2 z3 z4 z5 z6 q0 q1 q2 q3 q4 q5 q6 r0 r1 r2 r3 r4 r5 r6
      go_wp2_with fail
      refine (n_dr HVd.out.dr HG.out (by omega) (by omega)).mono ?_
      rintro e d ⟨v5, rfl, hv5, hw5, hdd, hgd⟩
      have HVe := Hid.mk (HVd.out.call HG.out hdd hgd)
      clear hdd hgd HVd
      rcases (show v5 = 0 ∨ v5 = 1 ∨ v5 = 2 ∨ v5 = 3 ∨ v5 = 4 by omega) with rfl | rfl | rfl | rfl | rfl
      · have HVf := Hid.mk (HVe.out.alloc (.cells #[.int .i64 0, .int .i64 1000000, .int .i64 1000001] 2))
        go_wp2_with fail
        refine (n_dr HVf.out.dr HG.out (by omega) (by omega)).mono ?_
        rintro e f ⟨v6, rfl, h60, h61, hdf, hgf⟩
        have HVh := Hid.mk (HVf.out.call HG.out hdf hgf)
        have hdl := HVe.out.lt
        obtain ⟨xv, hxv⟩ : ∃ xv : Int, (d.alloc (.cells #[.int .i64 0, .int .i64 1000000, .int .i64 1000001] 2)).cell? ⟨d.heap.size, v6.toNat, none⟩ = some (.int .i64 xv) := by
          rcases (show v6 = 0 ∨ v6 = 1 ∨ v6 = 2 by omega) with rfl | rfl | rfl
          · exact ⟨0, by simp⟩
          · exact ⟨1000000, by simp⟩
          · exact ⟨1000001, by simp⟩
        have hcell : f.cell? ⟨d.heap.size, v6.toNat, none⟩ = some (.int .i64 xv) := (cell_grown hgf (by simp) (by omega)).trans hxv
        clear hdf hgf hxv HVf HVe
        obtain ⟨k0, k1, k2, k3, k4, k5, k6, z0, z1, z2, z3, z4, z5, z6⟩ := cells7 HVh.out.lies
        obtain ⟨q0, q1, q2, q3, q4, q5, q6, r0, r1, r2, r3, r4, r5, r6⟩ := cells7 HVh.out.res
        have HVs := Hid.mk (HVh.out.set (o' := ⟨xv, oc.repl, oc.kind, oc.node, oc.parent, oc.name, oc.value⟩) HG.out 0 (.int .i64 xv) rfl)
        go_wp2
        refine bodyPost_ret (v := OpV.agg ⟨xv, oc.repl, oc.kind, oc.node, oc.parent, oc.name, oc.value⟩) (by simp [results, Try.results65, go_sem, q0, q1, q2, q3, q4, q5, q6, OpV.agg]) rfl ⟨⟨xv, oc.repl, oc.kind, oc.node, oc.parent, oc.name, oc.value⟩, rfl, ?_, ?_, ?_⟩
        · have := HOc.out; show oc.name.size ≤ 8000; omega
        · have := HOc.out; show oc.value.size ≤ 8000; omega
        · exact ((((((HVs.out.dr.set (Nat.le_refl _) hg0).set (Nat.le_refl _) hg0).set (Nat.le_refl _) hg0).set (Nat.le_refl _) hg0).set (Nat.le_refl _) hg0).set (Nat.le_refl _) hg0).set (Nat.le_refl _) hg0
      · have HVf := Hid.mk (HVe.out.alloc (.cells #[.int .i64 0, .int .i64 50, .int .i64 51] 2))
        go_wp2_with fail
        refine (n_dr HVf.out.dr HG.out (by omega) (by omega)).mono ?_
        rintro e f ⟨v6, rfl, h60, h61, hdf, hgf⟩
        have HVh := Hid.mk (HVf.out.call HG.out hdf hgf)
        have hdl := HVe.out.lt
        obtain ⟨xv, hxv⟩ : ∃ xv : Int, (d.alloc (.cells #[.int .i64 0, .int .i64 50, .int .i64 51] 2)).cell? ⟨d.heap.size, v6.toNat, none⟩ = some (.int .i64 xv) := by
          rcases (show v6 = 0 ∨ v6 = 1 ∨ v6 = 2 by omega) with rfl | rfl | rfl
          · exact ⟨0, by simp⟩
          · exact ⟨50, by simp⟩
          · exact ⟨51, by simp⟩
        have hcell : f.cell? ⟨d.heap.size, v6.toNat, none⟩ = some (.int .i64 xv) := (cell_grown hgf (by simp) (by omega)).trans hxv
        clear hdf hgf hxv HVf HVe
        obtain ⟨k0, k1, k2, k3, k4, k5, k6, z0, z1, z2, z3, z4, z5, z6⟩ := cells7 HVh.out.lies
        obtain ⟨q0, q1, q2, q3, q4, q5, q6, r0, r1, r2, r3, r4, r5, r6⟩ := cells7 HVh.out.res
        have HVs := Hid.mk (HVh.out.set (o' := ⟨oc.time, xv, oc.kind, oc.node, oc.parent, oc.name, oc.value⟩) HG.out 1 (.int .i64 xv) rfl)
        go_wp2
        refine bodyPost_ret (v := OpV.agg ⟨oc.time, xv, oc.kind, oc.node, oc.parent, oc.name, oc.value⟩) (by simp [results, Try.results65, go_sem, q0, q1, q2, q3, q4, q5, q6, OpV.agg]) rfl ⟨⟨oc.time, xv, oc.kind, oc.node, oc.parent, oc.name, oc.value⟩, rfl, ?_, ?_, ?_⟩
        · have := HOc.out; show oc.name.size ≤ 8000; omega
        · have := HOc.out; show oc.value.size ≤ 8000; omega
        · exact ((((((HVs.out.dr.set (Nat.le_refl _) hg0).set (Nat.le_refl _) hg0).set (Nat.le_refl _) hg0).set (Nat.le_refl _) hg0).set (Nat.le_refl _) hg0).set (Nat.le_refl _) hg0).set (Nat.le_refl _) hg0
      · have HVf := Hid.mk (HVe.out.alloc (.cells #[.int .i64 1, .int .i64 1000000, .int .i64 1000001] 2))
        go_wp2_with fail
        refine (n_dr HVf.out.dr HG.out (by omega) (by omega)).mono ?_
        rintro e f ⟨v6, rfl, h60, h61, hdf, hgf⟩
        have HVh := Hid.mk (HVf.out.call HG.out hdf hgf)
        have hdl := HVe.out.lt
        obtain ⟨xv, hxv⟩ : ∃ xv : Int, (d.alloc (.cells #[.int .i64 1, .int .i64 1000000, .int .i64 1000001] 2)).cell? ⟨d.heap.size, v6.toNat, none⟩ = some (.int .i64 xv) := by
          rcases (show v6 = 0 ∨ v6 = 1 ∨ v6 = 2 by omega) with rfl | rfl | rfl
          · exact ⟨1, by simp⟩
          · exact ⟨1000000, by simp⟩
          · exact ⟨1000001, by simp⟩
        have hcell : f.cell? ⟨d.heap.size, v6.toNat, none⟩ = some (.int .i64 xv) := (cell_grown hgf (by simp) (by omega)).trans hxv
        clear hdf hgf hxv HVf HVe
        obtain ⟨k0, k1, k2, k3, k4, k5, k6, z0, z1, z2, z3, z4, z5, z6⟩ := cells7 HVh.out.lies
        obtain ⟨q0, q1, q2, q3, q4, q5, q6, r0, r1, r2, r3, r4, r5, r6⟩ := cells7 HVh.out.res
        have HVs := Hid.mk (HVh.out.set (o' := ⟨oc.time, oc.repl, oc.kind, xv, oc.parent, oc.name, oc.value⟩) HG.out 3 (.int .i64 xv) rfl)
        go_wp2
        refine bodyPost_ret (v := OpV.agg ⟨oc.time, oc.repl, oc.kind, xv, oc.parent, oc.name, oc.value⟩) (by simp [results, Try.results65, go_sem, q0, q1, q2, q3, q4, q5, q6, OpV.agg]) rfl ⟨⟨oc.time, oc.repl, oc.kind, xv, oc.parent, oc.name, oc.value⟩, rfl, ?_, ?_, ?_⟩
        · have := HOc.out; show oc.name.size ≤ 8000; omega
        · have := HOc.out; show oc.value.size ≤ 8000; omega
        · exact ((((((HVs.out.dr.set (Nat.le_refl _) hg0).set (Nat.le_refl _) hg0).set (Nat.le_refl _) hg0).set (Nat.le_refl _) hg0).set (Nat.le_refl _) hg0).set (Nat.le_refl _) hg0).set (Nat.le_refl _) hg0
      · go_wp2_with fail
        refine (n_dr HVe.out.dr HG.out (by omega) (by omega)).mono ?_
        rintro e f ⟨v6, rfl, h60, h61, hdf, hgf⟩
        have HVh := Hid.mk (HVe.out.call HG.out hdf hgf)
        clear hdf hgf HVe
        have hfV := HVh.out.lt
        have hfR : w.heap.size < f.heap.size := by omega
        have hfR2 : ¬ w.heap.size = f.heap.size := by omega
        have hfR3 : ¬ f.heap.size = w.heap.size := by omega
        have hfV2 : ¬ V = f.heap.size := by omega
        have hfV3 : ¬ f.heap.size = V := by omega
        obtain ⟨n, hn⟩ : ∃ n : Nat, (n : Int) = 40 + v6 := ⟨(40 + v6).toNat, by omega⟩
        have hn1 : n ≤ 41 := by omega
        have hmk : ∀ w, (Instr.makeSlice 22 (.int .i64 (40 + v6)) (.int .i64 (40 + v6))).run Try.prog w = .ok (.slice (some ⟨w.heap.size, 0, none⟩) n n) (w.alloc (.cells (madeCells #[.int .u8 0] n) 5)) := fun w => by rw [← hn]; exact make_bytes n (by omega) w
        have hcv := fun W => conv_zeros W n
        obtain ⟨Z, hZ⟩ : ∃ Z : ByteArray, Z = ⟨(List.replicate n (0 : UInt8)).toArray⟩ := ⟨_, rfl⟩
        have hZs : Z.size ≤ 8000 := by
          rw [hZ]
          show (List.replicate n (0 : UInt8)).toArray.size ≤ 8000
          simp
          omega
        simp only [← hZ] at hcv
        clear hZ
        obtain ⟨MC, hMC⟩ : ∃ MC : Array Value, MC = madeCells #[.int .u8 0] n := ⟨_, rfl⟩
        simp only [← hMC] at hmk hcv
        clear hMC hn
        replace hmk := hmk f
        replace hcv := hcv f
        have HVa := HVh.out.alloc (.cells MC 5)
        obtain ⟨F, hF⟩ : ∃ F, F = f.alloc (.cells MC 5) := ⟨_, rfl⟩
        rw [← hF] at hmk hcv HVa
        have HVF := Hid.mk HVa
        obtain ⟨k0, k1, k2, k3, k4, k5, k6, z0, z1, z2, z3, z4, z5, z6⟩ := cells7 HVa.lies
        obtain ⟨q0, q1, q2, q3, q4, q5, q6, r0, r1, r2, r3, r4, r5, r6⟩ := cells7 HVa.res
        clear hF HVa
        go_wp2
        refine bodyPost_ret (v := OpV.agg ⟨oc.time, oc.repl, oc.kind, oc.node, oc.parent, oc.name, Z⟩) (by simp [results, Try.results65, go_sem, q0, q1, q2, q3, q4, q5, q6, OpV.agg]) rfl ⟨⟨oc.time, oc.repl, oc.kind, oc.node, oc.parent, oc.name, Z⟩, rfl, ?_, ?_, ?_⟩
        · have := HOc.out; show oc.name.size ≤ 8000; omega
        · exact hZs
        · exact ((((((((HVF.out).set (o' := ⟨oc.time, oc.repl, oc.kind, oc.node, oc.parent, oc.name, Z⟩) HG.out 6 (.string Z) rfl).dr.set (Nat.le_refl _) hg0).set (Nat.le_refl _) hg0).set (Nat.le_refl _) hg0).set (Nat.le_refl _) hg0).set (Nat.le_refl _) hg0).set (Nat.le_refl _) hg0).set (Nat.le_refl _) hg0
      · have HVf := Hid.mk (HVe.out.alloc (.cells #[.int .i64 0, .int .i64 3] 2))
        go_wp2_with fail
        refine (n_dr HVf.out.dr HG.out (by omega) (by omega)).mono ?_
        rintro e f ⟨v6, rfl, h60, h61, hdf, hgf⟩
        have HVh := Hid.mk (HVf.out.call HG.out hdf hgf)
        have hdl := HVe.out.lt
        obtain ⟨xv, hxv⟩ : ∃ xv : Int, (d.alloc (.cells #[.int .i64 0, .int .i64 3] 2)).cell? ⟨d.heap.size, v6.toNat, none⟩ = some (.int .i64 xv) := by
          rcases (show v6 = 0 ∨ v6 = 1 by omega) with rfl | rfl
          · exact ⟨0, by simp⟩
          · exact ⟨3, by simp⟩
        have hcell : f.cell? ⟨d.heap.size, v6.toNat, none⟩ = some (.int .i64 xv) := (cell_grown hgf (by simp) (by omega)).trans hxv
        clear hdf hgf hxv HVf HVe
        obtain ⟨k0, k1, k2, k3, k4, k5, k6, z0, z1, z2, z3, z4, z5, z6⟩ := cells7 HVh.out.lies
        obtain ⟨q0, q1, q2, q3, q4, q5, q6, r0, r1, r2, r3, r4, r5, r6⟩ := cells7 HVh.out.res
        have HVs := Hid.mk (HVh.out.set (o' := ⟨oc.time, oc.repl, xv, oc.node, oc.parent, oc.name, oc.value⟩) HG.out 2 (.int .i64 xv) rfl)
        go_wp2
        refine bodyPost_ret (v := OpV.agg ⟨oc.time, oc.repl, xv, oc.node, oc.parent, oc.name, oc.value⟩) (by simp [results, Try.results65, go_sem, q0, q1, q2, q3, q4, q5, q6, OpV.agg]) rfl ⟨⟨oc.time, oc.repl, xv, oc.node, oc.parent, oc.name, oc.value⟩, rfl, ?_, ?_, ?_⟩
        · have := HOc.out; show oc.name.size ≤ 8000; omega
        · have := HOc.out; show oc.value.size ≤ 8000; omega
        · exact ((((((HVs.out.dr.set (Nat.le_refl _) hg0).set (Nat.le_refl _) hg0).set (Nat.le_refl _) hg0).set (Nat.le_refl _) hg0).set (Nat.le_refl _) hg0).set (Nat.le_refl _) hg0).set (Nat.le_refl _) hg0
end Go.Proofs.Ytlphcbgeagmopaa.OpR
