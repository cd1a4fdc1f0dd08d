/- Proves what a draw of a text leaves: spec's (*l01Src).spoil, and spec.DrawOpsRead, a text of at most 8001 bytes. -/
import Derived.Test.YtlphcbgeagmopaaDrLog
import Derived.Test.YtlphcbgeagmopaaBytesW
namespace Go.Proofs.Ytlphcbgeagmopaa.OpR
open Go.ChangeShapes Go.WideShapes Go.ChangeAt Go.RowKit Go.ChangeMaps
open SrcR (Src)
set_option linter.unusedVariables false

theorem str_to (s : ByteArray) (k : Nat) (h1 : k ≤ s.size) (W : World) :
    (Instr.slice 9 (.string s) none (some (.int .i64 (k : Int))) none).run Try.prog W = .ok (.string (s.extract 0 k)) W := by
  have hu : Try.prog.underlying 9 = some .string := Try.underlying9
  simp [go_sem, hu, h1]
theorem str_from (s : ByteArray) (k : Nat) (K : Int) (hK : K = (k : Int)) (h1 : k ≤ s.size) (W : World) :
    (Instr.slice 9 (.string s) (some (.int .i64 K)) none none).run Try.prog W = .ok (.string (s.extract k s.size)) W := by
  subst hK
  have hu : Try.prog.underlying 9 = some .string := Try.underlying9
  simp [go_sem, hu, h1]
theorem idx17 (v : Int) (h0 : 0 ≤ v) (h1 : v < 17) : ∃ b : UInt8, ∀ W, (Instr.index 9 (.string ⟨#[32, 10, 48, 97, 45, 110, 44, 58, 93, 255, 40, 120, 126, 49, 128, 225, 59]⟩) (.int .i64 v)).run Try.prog W = .ok (.int .u8 (b.toNat : Int)) W := by
  rcases (show v = 0 ∨ v = 1 ∨ v = 2 ∨ v = 3 ∨ v = 4 ∨ v = 5 ∨ v = 6 ∨ v = 7 ∨ v = 8 ∨ v = 9 ∨ v = 10 ∨ v = 11 ∨ v = 12 ∨ v = 13 ∨ v = 14 ∨ v = 15 ∨ v = 16 by omega) with rfl | rfl | rfl | rfl | rfl | rfl | rfl | rfl | rfl | rfl | rfl | rfl | rfl | rfl | rfl | rfl | rfl
  · exact ⟨32, fun W => by kernel_rfl⟩
  · exact ⟨10, fun W => by kernel_rfl⟩
  · exact ⟨48, fun W => by kernel_rfl⟩
  · exact ⟨97, fun W => by kernel_rfl⟩
  · exact ⟨45, fun W => by kernel_rfl⟩
  · exact ⟨110, fun W => by kernel_rfl⟩
  · exact ⟨44, fun W => by kernel_rfl⟩
  · exact ⟨58, fun W => by kernel_rfl⟩
  · exact ⟨93, fun W => by kernel_rfl⟩
  · exact ⟨255, fun W => by kernel_rfl⟩
  · exact ⟨40, fun W => by kernel_rfl⟩
  · exact ⟨120, fun W => by kernel_rfl⟩
  · exact ⟨126, fun W => by kernel_rfl⟩
  · exact ⟨49, fun W => by kernel_rfl⟩
  · exact ⟨128, fun W => by kernel_rfl⟩
  · exact ⟨225, fun W => by kernel_rfl⟩
  · exact ⟨59, fun W => by kernel_rfl⟩
theorem conv_one (w : World) (b : UInt8) :
    (convert 22 9 (.slice (some ⟨w.heap.size, 0, none⟩) 1 1)).run Try.prog (w.alloc (.cells #[.int .u8 (b.toNat : Int)] 5)) = .ok (.string ⟨#[b]⟩) (w.alloc (.cells #[.int .u8 (b.toNat : Int)] 5)) := by
  have h := run_convert_bytes_back (P := Try.prog) (w.alloc (.cells #[.int .u8 (b.toNat : Int)] 5)) 22 9 5 ⟨w.heap.size, 0, none⟩ 1 [b] Try.underlying22 Try.underlying5 Try.underlying9 (fun j hj => by
    rw [Addr.add_lit, Nat.zero_add]
    obtain rfl : j = 0 := by simp at hj; omega
    simp)
  simpa using h
theorem n_dr1 {w X : World} {g : Nat} {ao : Option Addr} {len cap : Nat} {most : Int} (h : Dr w X g ao len cap) (hg : Dg w g ao len) (h1 : 1 ≤ most) (h2 : most ≤ 9223372036854775807) :
    Calls Try.prog 61 #[.pointer (some ⟨g, 0, none⟩), .int .i64 most] X fun e Y => ∃ v : Nat, e = .returned (.int .i64 (v : Int)) ∧ (v : Int) < most ∧ Dr w Y g ao len cap ∧ X.grownBy Y (some g) := by
  by_cases hm : most = 1
  · refine (SrcR.n_one g most X (by omega)).mono ?_
    rintro e Y ⟨he, hY⟩
    subst hY
    exact ⟨0, he, by omega, h, SrcR.grown_refl _ _⟩
  · refine (n_dr h hg (by omega) h2).mono ?_
    rintro e Y ⟨v, he, h3, h4, h5, h6⟩
    exact ⟨v.toNat, by rw [he]; congr; omega, by omega, h5, h6⟩
theorem ext_size (s : ByteArray) (i j : Nat) : (s.extract i j).size = min j s.size - i := by simp
set_option maxRecDepth 100000 in
set_option maxHeartbeats 2000000 in
theorem spoil_dr {w X : World} {g : Nat} {ao : Option Addr} {len cap : Nat} (t : ByteArray) (h : Dr w X g ao len cap) (hg : Dg w g ao len) (ht : t.size ≤ 1000000) :
    Calls Try.prog 62 #[.pointer (some ⟨g, 0, none⟩), .string t] X fun e Y => ∃ u : ByteArray, e = .returned (.string u) ∧ u.size ≤ t.size + 1 ∧ Dr w Y g ao len cap ∧ X.grownBy Y (some g) := by
  have HG := Hid.mk hg
  have HD0 := Hid.mk h
  have hwr : IntKind.i64.wrap ((t.size : Int) + 1) = (t.size : Int) + 1 := by rw [IntKind.wrap_i64]; omega
  clear h hg
  go_enter Try.func62, Try.ntmps62
  go_wp2_with fail
  refine (n_dr1 HD0.out HG.out (by omega) (by omega)).mono ?_
  rintro e x1 ⟨k, rfl, hk, hd1, hg1⟩
  have HD1 := Hid.mk hd1
  have HR1 := Hid.mk hg1
  clear hd1 hg1 HD0
  go_wp2_with fail
  refine (n_dr HD1.out HG.out (by omega) (by omega)).mono ?_
  rintro e x2 ⟨v2, rfl, hv2, hw2, hd2, hg2⟩
  obtain ⟨b, hix⟩ := idx17 v2 hv2 hw2
  replace hix := hix x2
  have hcv := conv_one x2 b
  have HD2 := Hid.mk (hd2.alloc (.cells #[.int .u8 (b.toNat : Int)] 5))
  have HR2 := Hid.mk (grown_trans' (grown_trans' HR1.out hg2) (World.grownBy_alloc x2 (.cells #[.int .u8 (b.toNat : Int)] 5) (some g)))
  clear hd2 hg2 HD1 HR1
  have h1s := fun W => str_to t k (by omega) W
  have h2s := fun W => str_from t k k rfl (by omega) W
  by_cases hkt : k = t.size
  · have hkb : ((k : Int) == (t.size : Int)) = true := by simp [hkt]
    go_wp2
    go_quiet (fail)
    go_wp2
    go_ret
    exact ⟨_, rfl, by simp only [ByteArray.size_append]; first | (show _ + 1 ≤ _ + 1; omega) | (show _ + 1 + _ ≤ _; simp only [ext_size]; omega), HD2.out.below (drewN_b8 (Below.refl _ _) _), grown_trans' HR2.out (grown_below' (drewN_b8 (Below.refl _ _) _))⟩
  · have hkb : ((k : Int) == (t.size : Int)) = false := by simp; omega
    have h3s := fun W => str_from t (k + 1) ((k : Int) + 1) (by omega) (by omega) W
    have hwk : IntKind.i64.wrap ((k : Int) + 1) = (k : Int) + 1 := by rw [IntKind.wrap_i64]; omega
    have hS := Hid.mk (show k + 1 ≤ t.size by omega)
    go_wp2_with fail
    refine (one_dr HD2.out HG.out (by omega) (by omega)).mono ?_
    rintro e x3 ⟨b3, rfl, hd3, hg3⟩
    have HD3 := Hid.mk hd3
    have HR3 := Hid.mk (grown_trans' HR2.out hg3)
    clear hd3 hg3 HD2 HR2
    cases b3
    · go_wp2_with fail
      refine (one_dr HD3.out HG.out (by omega) (by omega)).mono ?_
      rintro e x4 ⟨b4, rfl, hd4, hg4⟩
      have HD4 := Hid.mk hd4
      have HR4 := Hid.mk (grown_trans' HR3.out hg4)
      clear hd4 hg4 HD3 HR3
      cases b4
      · go_wp2
        go_quiet (fail)
        go_wp2
        go_ret
        exact ⟨_, rfl, by have := hS.out; simp only [ByteArray.size_append, ext_size]; show _ + 1 + _ ≤ _; omega, HD4.out.below (drewN_b8 (Below.refl _ _) _), grown_trans' HR4.out (grown_below' (drewN_b8 (Below.refl _ _) _))⟩
      · go_wp2
        go_quiet (fail)
        go_wp2
        go_ret
        exact ⟨_, rfl, by have := hS.out; simp only [ByteArray.size_append, ext_size]; omega, HD4.out.below (drewN_b8 (Below.refl _ _) _), grown_trans' HR4.out (grown_below' (drewN_b8 (Below.refl _ _) _))⟩
    · go_wp2
      go_quiet (fail)
      go_wp2
      go_ret
      exact ⟨_, rfl, by have := hS.out; simp only [ByteArray.size_append, ext_size]; show _ + 1 + _ ≤ _; omega, HD3.out.below (drewN_b8 (Below.refl _ _) _), grown_trans' HR3.out (grown_below' (drewN_b8 (Below.refl _ _) _))⟩
theorem bytes_size (l : List OpV) : (opsBytes l).size ≤ 8000 := by
  by_cases hr : opsRight l = true
  · by_cases hz : 8000 < (rawBytes l).size
    · rw [bytes_far hr hz]; decide
    · rw [bytes_yes hr hz]; omega
  · rw [bytes_no (by simpa using hr)]; decide
set_option maxRecDepth 100000 in
set_option maxHeartbeats 2000000 in
theorem drawOpsRead_any (w : World) (ao : Option Addr) (len cap : Nat) (hc : SrcR.Code w ao len) (hB : ∀ a, ao = some a → a.block < w.heap.size) :
    Calls Try.prog 15 #[.slice ao len cap] w fun e w' => ∃ t : ByteArray, e = .returned (.string t) ∧ t.size ≤ 8001 ∧ Below w.heap.size w w' := by
  have HC := Hid.mk hc
  clear hc
  go_enter Try.func15, Try.ntmps15
  go_wp2_with fail
  refine (SrcR.source_any w ao len cap HC.out hB).mono ?_
  rintro e w1 ⟨rfl, hs, hb⟩
  have hg := dg_new HC.out hB hs hb
  have hg0 := hg.lt
  have HG := Hid.mk hg
  have HBw := Hid.mk hb
  go_wp2_with fail
  refine (drOps_any w.heap.size w1 ao len cap hs hg).mono ?_
  intro e w2 h
  obtain ⟨v, l, he, hl, hls, hO, hD⟩ := h
  subst he
  obtain ⟨gr, cap1, rfl, h1, h2, h3, h4, hat⟩ := hO.at
  have hsb := sOpsBytes_any l (some ⟨gr, 0, none⟩) cap1 w2 (by unfold maxLen; omega) hat (fun o ho => by have := hls o ho; unfold maxLen; omega)
  have HSB := Hid.mk hsb
  have HD := Hid.mk hD
  clear hs hg hb hO hD hls hat hsb
  go_wp2_with fail
  refine HSB.out.mono ?_
  rintro e w3 ⟨rfl, hb3⟩
  have HD3 := Hid.mk (HD.out.below hb3)
  clear hb3 HSB HD
  have hts := bytes_size l
  obtain ⟨t, ht⟩ : ∃ t, t = opsBytes l := ⟨_, rfl⟩
  rw [← ht] at hts ⊢
  clear ht
  go_wp2_with fail
  refine (n_dr HD3.out HG.out (by omega) (by omega)).mono ?_
  rintro e w4 ⟨v4, rfl, hv4, hw4, hd4, hg4⟩
  have HD4 := Hid.mk hd4
  clear hd4 hg4 HD3
  by_cases e0 : v4 = 0
  · subst e0
    go_wp2_with fail
    refine (spoil_dr t HD4.out HG.out (by omega)).mono ?_
    rintro e w5 ⟨u, rfl, hu, hd5, hg5⟩
    have HB5 := Hid.mk (Dr.out HBw.out hd5)
    clear hd5 hg5 HD4
    go_wp2
    go_ret
    exact ⟨u, rfl, by omega, HB5.out⟩
  · have e0b : (v4 == 0) = false := by simpa using e0
    by_cases e1 : v4 = 1
    · subst e1
      have hwr : IntKind.i64.wrap ((t.size : Int) + 1) = (t.size : Int) + 1 := by rw [IntKind.wrap_i64]; omega
      go_wp2_with fail
      refine (n_dr1 HD4.out HG.out (by omega) (by omega)).mono ?_
      rintro e w5 ⟨k, rfl, hk, hd5, hg5⟩
      have HB5 := Hid.mk (Dr.out HBw.out hd5)
      clear hd5 hg5 HD4
      have h1s := fun W => str_to t k (by omega) W
      go_wp2
      go_ret
      exact ⟨_, rfl, by rw [ext_size]; omega, HB5.out⟩
    · have e1b : (v4 == 1) = false := by simpa using e1
      have HB5 := Hid.mk (Dr.out HBw.out HD4.out)
      clear HD4
      go_wp2
      go_ret
      exact ⟨t, rfl, by omega, HB5.out⟩
end Go.Proofs.Ytlphcbgeagmopaa.OpR
