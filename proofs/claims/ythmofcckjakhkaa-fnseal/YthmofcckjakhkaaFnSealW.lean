/- Proves the walk of the law FnSeal: whatever is drawn, its seal opens, with one byte turned it is refused, and a CRC goes on from text to text. -/
import Derived.Test.YthmofcckjakhkaaSrcT
import Derived.Test.YthmofcckjakhkaaCrcM
import Derived.Test.YthmofcckjakhkaaCrcMore
import Derived.Lib.ConvBytes
import Derived.Laws.StructEq
namespace Go.Proofs.Ythmofcckjakhkaa.SrcR
open Go.ChangeShapes Go.WideShapes Go.ChangeAt Go.RowKit Go.ChangeMaps
set_option linter.unusedVariables false

/-- The two CRCs of the law's last row. -/
theorem crc_cases (crc : Int) (u : ByteArray) (hu : u.size ≤ 8000) : ∃ x : Int, (∀ w, Calls Try.prog 10 #[.int .i64 crc, .string u] w fun e w' => e = .returned (.int .i64 x) ∧ w = w') ∧ (∀ w, Calls Try.prog 11 #[.int .i64 crc, .string u] w fun e w' => e = .returned (.int .i64 x) ∧ w = w') := by
  by_cases h : crc < 0 ∨ 4294967295 < crc
  · exact ⟨0, fun w => (CrcR.more_no crc u w (by unfold maxLen; omega) (.inr h)).mono (fun e w' h => ⟨h.1, h.2.symm⟩), fun w => (CrcR.sMore_no crc u w (by unfold maxLen; omega) (.inr h)).mono (fun e w' h => ⟨h.1, h.2.symm⟩)⟩
  · exact ⟨CrcR.crcOf crc u, fun w => (CrcR.more_any crc (by omega) (by omega) u w hu).mono (fun e w' h => ⟨h.1, h.2.symm⟩), fun w => (CrcR.sMore_any crc (by omega) (by omega) u w hu).mono (fun e w' h => ⟨h.1, h.2.symm⟩)⟩

theorem below_bytes {B : Nat} {w w3 : World} (h : Below B w w3) (e : TypeId) (s : ByteArray) (hB : B ≤ w3.heap.size := by omega) : Below B w (Lib.bytesWorld w3 e s) :=
  h.trans ⟨rfl, rfl, rfl, by rw [Lib.bytesWorld_size]; omega, fun k hk => Lib.bytesWorld_at_old w3 e s k (by omega)⟩
theorem bytes_free (w : World) (e : TypeId) (s : ByteArray) (j : Nat) (hj : j < s.size) : (Lib.bytesWorld w e s).frozen? ⟨w.heap.size, j, none⟩ = false := by
  have hz : s.size ≤ (Lib.bytesCells w e s).size := by simp [Lib.bytesCells]
  simp [World.frozen?, Lib.bytesWorld_at_new]
  omega

theorem last_three (t u : ByteArray) : Hid (t.size + u.size ≤ 8000 → (∀ w, Calls Try.prog 12 #[.string t] w fun e w' => e = .returned (.int .i64 (CrcR.crcOf 0 t)) ∧ w = w') ∧ (∀ w, Calls Try.prog 10 #[.int .i64 (CrcR.crcOf 0 t), .string u] w fun e w' => e = .returned (.int .i64 (CrcR.crcOf 0 (t ++ u))) ∧ w = w') ∧ (∀ w, Calls Try.prog 12 #[.string (t ++ u)] w fun e w' => e = .returned (.int .i64 (CrcR.crcOf 0 (t ++ u))) ∧ w = w')) := fun h => by
  have hr := CrcR.crc_rng 0 t
  refine ⟨fun w => NumR.iCrc_small t w (by omega), fun w => ?_, fun w => NumR.iCrc_small (t ++ u) w (by rw [ByteArray.size_append]; omega)⟩
  have h1 := CrcR.more_any (CrcR.crcOf 0 t) hr.1 hr.2 u w (by omega)
  rw [CrcR.crc_on t u 0 (by omega)] at h1
  exact h1.mono (fun e w' h => ⟨h.1, h.2.symm⟩)
theorem turn_byte (c : UInt8) (p1 : Int) (h0 : 0 ≤ p1) (h1 : p1 < 255) : ∃ b : UInt8, bits .xor .u8 (c.toNat : Int) (IntKind.u8.wrap (IntKind.i64.wrap (1 + p1))) = (b.toNat : Int) ∧ c ≠ b := by
  have hc := UInt8.toNat_lt c
  have e1 : IntKind.i64.wrap (1 + p1) = 1 + p1 := by simp only [IntKind.wrap_i64]; omega
  have e2 : IntKind.u8.wrap (1 + p1) = 1 + p1 := by simp only [IntKind.wrap_u8]; omega
  rw [e1, e2, u8_xor _ _ (by omega) (by omega) (by omega) (by omega)]
  have hx : c.toNat ^^^ (1 + p1).toNat < 2 ^ 8 := Nat.xor_lt_two_pow (by omega) (by omega)
  refine ⟨UInt8.ofNat (c.toNat ^^^ (1 + p1).toNat), ?_, fun e => ?_⟩
  · rw [UInt8.toNat_ofNat', Nat.mod_eq_of_lt hx]; simp
  · have e3 := congrArg UInt8.toNat e
    rw [UInt8.toNat_ofNat', Nat.mod_eq_of_lt hx] at e3
    have e4 : c.toNat ^^^ (1 + p1).toNat = c.toNat ^^^ 0 := by rw [Nat.xor_zero]; exact e3.symm
    have e5 := congrArg (c.toNat ^^^ ·) e4
    simp only [← Nat.xor_assoc, Nat.xor_self, Nat.zero_xor] at e5
    omega
theorem flip_conv {X W5 : World} {B q n cp N : Nat} {s : ByteArray} {b : UInt8} (hX : ∀ j, j < s.size → X.cell? ⟨B, j, none⟩ = some (.int .u8 (s.data.toList.getD j 0).toNat)) (hq : q < s.size) (hb : Below N (X.setCell ⟨B, q, none⟩ (.int .u8 (b.toNat : Int))).drew W5) (hN : B < N) (hn : s.size = n) :
    (convert 22 9 (.slice (some ⟨B, 0, none⟩) n cp)).run Try.prog W5 = .ok (.string (CrcR.flip s q b)) W5 := by
  have hl : (s.data.toList.set q b).length = n := by rw [List.length_set]; simpa using hn
  have h := run_convert_bytes_back (P := Try.prog) W5 22 9 5 ⟨B, 0, none⟩ cp (s.data.toList.set q b) Try.underlying22 Try.underlying5 Try.underlying9 (fun j hj => by
    rw [Addr.add_lit, Nat.zero_add]
    have hj' : j < s.size := by rw [hl] at hj; omega
    have e0 : W5.cell? ⟨B, j, none⟩ = (X.setCell ⟨B, q, none⟩ (.int .u8 (b.toNat : Int))).cell? ⟨B, j, none⟩ := hb.cell hN
    rw [e0]
    by_cases hjq : j = q
    · subst hjq
      rw [World.cell?_setCell_same (w := X) (h := hX j hj'), List.getElem_set_self]
    · rw [World.cell?_setCell_other (w := X) (h := by intro e; cases e; exact hjq rfl), hX j hj', List.getElem_set_ne (Ne.symm hjq)]
      rw [List.getD_eq_getElem?_getD, List.getElem?_eq_getElem (by simpa using hj'), Option.getD_some])
  rw [hl] at h
  exact h
theorem empty_toList : ByteArray.empty.toList = [] := by
  rw [show ByteArray.empty.toList = ByteArray.empty.data.toList from by simp]; rfl

set_option maxRecDepth 100000 in
set_option maxHeartbeats 1000000 in
theorem law_seal (w : World) (ao1 : Option Addr) (len1 cap1 : Nat) (ao2 : Option Addr) (len2 cap2 : Nat) (hc1 : Code w ao1 len1) (hc2 : Code w ao2 len2) (hB1 : ∀ a, ao1 = some a → a.block < w.heap.size) (hB2 : ∀ a, ao2 = some a → a.block < w.heap.size) :
    Calls Try.prog 3 #[.slice ao1 len1 cap1, .slice ao2 len2 cap2] w fun e w' => e = .returned (.bool true) ∧ Below w.heap.size w w' := by
  have hl1 := hc1.1
  have hl2 := hc2.1
  have hd := drawSeal_any w ao1 len1 cap1 hc1 hB1
  have HC2 : Hid (Code w ao2 len2) := hc2
  have hfd : ∀ (v0 v1 v2 : Value) (w : World), (Instr.field 27 (.agg #[v0, v1, v2]) 2).run Try.prog w = .ok v2 w := fun v0 v1 v2 w => by kernel_rfl
  clear hc1 hc2
  go_enter Try.func3, Try.ntmps3
  go_wp2_with (first | (go_at_call 4; refine hd.mono ?_; rintro e w1 ⟨t, rfl, htz, hb1⟩; have hI := NumR.iSeal_any t w1 (by unfold maxLen; omega)) | (go_at_call 5; refine hI.mono ?_; rintro e w2 ⟨rfl, hb2⟩; have hb2' := hb1.trans (hb2.mono hb1.size); have hS := NumR.sSeal_any t w2 (by unfold maxLen; omega)) | (go_at_call 6; refine hS.mono ?_; rintro e w3 ⟨rfl, hb3⟩; have hb3' := hb2'.trans (hb3.mono hb2'.size)))
  · have hne : (!(NumR.sealB t).toList.isEmpty) = true := by assumption
    have hsz : ¬ 7996 < t.size := fun h => by rw [NumR.seal_no h] at hne; rw [empty_toList] at hne; exact absurd hne (by decide)
    have hSe := NumR.seal_yes hsz
    have hSz : (NumR.sealB t).size = t.size + 4 := by rw [hSe]; exact CrcR.seal_size t
    have HSe : Hid (NumR.sealB t = t ++ NumR.sumB t) := hSe
    clear hSe
    have hcv := Lib.run_convert_string_bytes (P := Try.prog) w3 9 22 5 (NumR.sealB t) Try.underlying9 Try.underlying22 Try.underlying5
    have hbX := below_bytes hb3' 5 (NumR.sealB t) hb3'.size
    have hcell := fun j hj => Lib.bytesWorld_cell w3 5 (NumR.sealB t) j hj
    have hfr := fun j hj => bytes_free w3 5 (NumR.sealB t) j hj
    have hsX := Lib.bytesWorld_size w3 5 (NumR.sealB t)
    have HX : Hid (∀ j, j < (NumR.sealB t).size → (Lib.bytesWorld w3 5 (NumR.sealB t)).cell? ⟨w3.heap.size, j, none⟩ = some (.int .u8 ((NumR.sealB t).data.toList.getD j 0).toNat)) := hcell
    have HFr : Hid (∀ j, j < (NumR.sealB t).size → (Lib.bytesWorld w3 5 (NumR.sealB t)).frozen? ⟨w3.heap.size, j, none⟩ = false) := hfr
    clear hcell hfr
    generalize hcap : grownCap w3 (NumR.sealB t).size 0 5 = cp at hcv
    generalize Lib.bytesWorld w3 5 (NumR.sealB t) = X at hcv hbX HX HFr hsX
    have hlw0 := lwAt_any X ao2 len2 cap2 (HC2.out.below hbX hB2) 0 (by omega) ((t.size : Int) + 4) (by omega) (by omega)
    have hlw1 := lwAt_any X.drew ao2 len2 cap2 (HC2.out.below hbX.drew hB2) 1 (by omega) 255 (by omega) (by omega)
    rw [show ((0 : Nat) : Int) = 0 from rfl] at hlw0
    rw [show ((1 : Nat) : Int) = 1 from rfl] at hlw1
    clear hd hI hS hcap
    rw [hcv]
    go_wp2_with (first | (go_at_call 7; refine hlw0.mono ?_; rintro e wx ⟨p0, rfl, hp0, hp1, rfl⟩; obtain ⟨q, rfl⟩ : ∃ q : Nat, p0 = (q : Int) := ⟨p0.toNat, by omega⟩; have hcq := HX.out q (by omega); have hfq := HFr.out q (by omega); clear hlw0))
    have hcq' : X.drew.cell? ⟨w3.heap.size, q, none⟩ = some (.int .u8 ((NumR.sealB t).data.toList.getD q 0).toNat) := hcq
    have hfq' : X.drew.frozen? ⟨w3.heap.size, q, none⟩ = false := hfq
    clear hcq hfq
    go_region_with (go_at_call 7; refine hlw1.mono ?_; rintro e wx ⟨p1, rfl, hp10, hp11, rfl⟩)
    all_goals (
      have hq : q < (NumR.sealB t).size := by omega
      obtain ⟨b, hb, hbn⟩ := turn_byte ((NumR.sealB t).data.toList.getD q 0) p1 hp10 hp11
      have hb' : bits .xor .u8 ((((NumR.sealB t).data[q]?.getD 0).toNat : Nat) : Int) (IntKind.u8.wrap (IntKind.i64.wrap (1 + p1))) = (b.toNat : Int) := by simpa using hb
      rw [hb']
      have hY : Below w.heap.size w (X.setCell ⟨w3.heap.size, q, none⟩ (.int .u8 (b.toNat : Int))).drew := (hbX.setCell hb3'.size _).drew
      have hYc : ∀ W5, Below (X.setCell ⟨w3.heap.size, q, none⟩ (.int .u8 (b.toNat : Int))).drew.heap.size (X.setCell ⟨w3.heap.size, q, none⟩ (.int .u8 (b.toNat : Int))).drew W5 → (convert 22 9 (.slice (some ⟨w3.heap.size, 0, none⟩) (t.size + 4) cp)).run Try.prog W5 = .ok (.string (CrcR.flip (NumR.sealB t) q b)) W5 := fun W5 h5 => flip_conv HX.out hq h5 (by show w3.heap.size < (X.setCell _ _).heap.size; rw [World.size_setCell]; omega) hSz
      have HYc : Hid (∀ W5, Below (X.setCell ⟨w3.heap.size, q, none⟩ (.int .u8 (b.toNat : Int))).drew.heap.size (X.setCell ⟨w3.heap.size, q, none⟩ (.int .u8 (b.toNat : Int))).drew W5 → (convert 22 9 (.slice (some ⟨w3.heap.size, 0, none⟩) (t.size + 4) cp)).run Try.prog W5 = .ok (.string (CrcR.flip (NumR.sealB t) q b)) W5) := hYc
      clear hYc
      have hU1 : ∀ W, Calls Try.prog 8 #[.string (NumR.sealB t)] W fun e w' => e = .returned (NumR.txt t 0 0) ∧ Below W.heap.size W w' := fun W => by
        have h := NumR.iUn_yes (NumR.sealB t) W (by omega) (by omega) (by rw [HSe.out, CrcR.seal_inner, CrcR.seal_tail])
        rw [show NumR.inner (NumR.sealB t) = t by rw [HSe.out, CrcR.seal_inner]] at h
        exact h
      have hU2 : ∀ W, Calls Try.prog 8 #[.string (CrcR.flip (NumR.sealB t) q b)] W fun e w' => e = .returned (NumR.txt ⟨#[]⟩ 0 5) ∧ Below W.heap.size W w' := fun W => NumR.iUn_no _ W (by rw [CrcR.flip_size]; omega) (by rw [CrcR.flip_size]; omega) (by
        rw [HSe.out] at hbn ⊢
        exact CrcR.flip_refused t q b (by omega) hbn)
      have hft : (CrcR.flip (NumR.sealB t) q b).size = t.size + 4 := by rw [CrcR.flip_size, hSz]
      generalize (X.setCell ⟨w3.heap.size, q, none⟩ (.int .u8 (b.toNat : Int))).drew = Y at hY HYc ⊢
      generalize CrcR.flip (NumR.sealB t) q b = fl at HYc hU2 hft
      clear hb hb' hbn hcv hlw1 hcq' hfq' HX HFr hsX hbX HSe
      unfold NumR.txt at *
      go_wp2_with (first | (go_at_call 8; refine (hU1 _).mono ?_; rintro e w4 ⟨rfl, hb4⟩; have hcv5 := HYc.out w4 hb4; have hb4' := hY.trans (hb4.mono hY.size); clear hU1) | (go_at_call 8; refine (hU2 _).mono ?_; rintro e w5 ⟨rfl, hb5⟩; have hb5' := hb4'.trans (hb5.mono hb4'.size); have hDm := drawMore_any w5 ao2 len2 cap2 (HC2.out.below hb5' hB2) (fun a ha => Nat.lt_of_lt_of_le (hB2 a ha) hb5'.size); clear hU2) | (go_at_call 9; refine hDm.mono ?_; rintro e w6 ⟨crc, u, rfl, hu, hb6⟩; have hb6' := hb5'.trans (hb6.mono hb5'.size); obtain ⟨x, hx1, hx2⟩ := crc_cases crc u (by omega); have HL := last_three t u; clear hDm) | (go_at_call 10; refine (hx1 _).mono ?_; rintro e w7 ⟨rfl, rfl⟩; obtain ⟨hCt, hCm, hCu⟩ := HL.out (by omega); clear HL hx1) | (go_at_call 11; refine (hx2 _).mono ?_; rintro e w7 ⟨rfl, rfl⟩) | (go_at_call 12; refine (hCt _).mono ?_; rintro e w7 ⟨rfl, rfl⟩; clear hCt) | (go_at_call 10; refine (hCm _).mono ?_; rintro e w7 ⟨rfl, rfl⟩) | (go_at_call 12; refine (hCu _).mono ?_; rintro e w7 ⟨rfl, rfl⟩))
      all_goals (go_ret; exact ⟨rfl, hb6'⟩))
  · have hDm := drawMore_any w3 ao2 len2 cap2 (HC2.out.below hb3' hB2) (fun a ha => Nat.lt_of_lt_of_le (hB2 a ha) hb3'.size)
    clear hd hI hS
    refine hDm.mono ?_
    rintro e w6 ⟨crc, u, rfl, hu, hb6⟩
    have hb6' := hb3'.trans (hb6.mono hb3'.size)
    obtain ⟨x, hx1, hx2⟩ := crc_cases crc u (by omega)
    have HL := last_three t u
    clear hDm
    go_wp2_with (first | (go_at_call 10; refine (hx1 _).mono ?_; rintro e w7 ⟨rfl, rfl⟩; obtain ⟨hCt, hCm, hCu⟩ := HL.out (by omega); clear HL hx1) | (go_at_call 11; refine (hx2 _).mono ?_; rintro e w7 ⟨rfl, rfl⟩) | (go_at_call 12; refine (hCt _).mono ?_; rintro e w7 ⟨rfl, rfl⟩; clear hCt) | (go_at_call 10; refine (hCm _).mono ?_; rintro e w7 ⟨rfl, rfl⟩) | (go_at_call 12; refine (hCu _).mono ?_; rintro e w7 ⟨rfl, rfl⟩))
    all_goals (go_ret; exact ⟨rfl, hb6'⟩)
end Go.Proofs.Ythmofcckjakhkaa.SrcR
