/- Proves what the harness' marks do to changes, and what its look at them tells. -/
import Derived.Test.YtmidembbanlleagMkN
import Derived.Test.YtmidembbanlleagChM
namespace Go.Proofs.Ytmidembbanlleag.OpR
open Go.ChangeShapes Go.WideShapes Go.ChangeAt Go.RowKit
set_option linter.unusedVariables false

/-- Changes that are marked from k on. -/
def thB (k : Nat) : Bool := decide ((k + 1) % 3 = 0)
theorem thB_is (k : Nat) : (((k : Int) + 1) % 3 == 0) = thB k := by
  unfold thB
  rw [Bool.eq_iff_iff]
  simp
  omega
def markC (k n : Nat) : List ChV := (List.range n).map fun j => ⟨mt (k + 3 * j), thB (k + 3 * j), mt (k + 3 * j + 2)⟩
theorem markC_len (k n : Nat) : (markC k n).length = n := by simp [markC]
theorem markC_get {k n j : Nat} (h : j < (markC k n).length) : (markC k n)[j] = ⟨mt (k + 3 * j), thB (k + 3 * j), mt (k + 3 * j + 2)⟩ := by simp [markC]
set_option maxRecDepth 100000 in
set_option maxHeartbeats 1000000 in
theorem markChangeS_some (l : List ChV) (g cap base k0 : Nat) (w : World) (hl : l.length ≤ 1048576) (hk : 0 < k0) (hk2 : k0 ≤ 1125899906842624) (hO : w.ownsRow base 48 3 (.slice (some ⟨g, 0, none⟩) l.length cap) l.length (flatG ChV.cells l)) :
    Calls Try.prog 15 #[.slice (some ⟨g, 0, none⟩) l.length cap, .int .i64 (k0 : Int)] w fun e w' => e = .returned (.int .i64 ((k0 + 3 * l.length : Nat) : Int)) ∧ w'.ownsRow base 48 3 (.slice (some ⟨g, 0, none⟩) l.length cap) l.length (flatG ChV.cells (markC k0 l.length)) ∧ w.grownBy w' (some g) := by
  have HO := hide hO
  have hml := markC_len k0 l.length
  obtain ⟨M, hM⟩ : ∃ M, markC k0 l.length = M := ⟨_, rfl⟩
  rw [hM] at hml ⊢
  have HM := hide hM
  have HML := hide hml
  clear hO hM hml
  go_enter Try.func15, Try.ntmps15
  go_wp2
  go_loopw [1, 5] (fun kv i wr => ∃ j : Nat, j ≤ l.length ∧ i = .int .i64 j ∧ kv = .int .i64 ((k0 + 3 * j : Nat) : Int) ∧ wr.ownsRow base 48 3 (.slice (some ⟨g, 0, none⟩) l.length cap) l.length (flatG ChV.cells (mixG M l j)) ∧ w.grownBy wr (some g)) (fun _ i _ => l.length - (intOf i).toNat)
  case atStart => exact ⟨0, by omega, rfl, by go_num, by rw [mixG_zero]; exact HO.out, grow_refl _ _⟩
  case round =>
    obtain ⟨j, hj, rfl, rfl, hR, hg⟩ := hrel
    have HR := hide hR
    have HG := hide hg
    clear hR hg
    obtain ⟨K, hK⟩ : ∃ K, k0 + 3 * j = K := ⟨_, rfl⟩
    have HK := hide hK
    have hK2 : K ≤ 1125902000000000 + 1048576 := by omega
    have hK0 : 0 < K := by omega
    rw [hK]
    clear hK
    by_cases h : j < l.length
    · have hi0 : (0 : Int) ≤ (j : Int) := by omega
      have hi1 : (j : Int) < (l.length : Int) := by omega
      have hmod := thB_is K
      obtain ⟨bm, hbm⟩ : ∃ bm, thB K = bm := ⟨_, rfl⟩
      have HBm := hide hbm
      rw [hbm] at hmod
      clear hbm
      have HL : Hid ((mixG M l j).length = l.length) := ⟨mixG_len HML.out hj⟩
      have HFl : Hid (∀ d : List ChV, d.length = l.length → j * 3 + 2 < (flatG ChV.cells d).length) := ⟨fun d hd => by rw [flatG_len ch_len, hd]; omega⟩
      have c0 := row_cell HR.out (i := j * 3) (by have := HFl.out _ HL.out; omega)
      have f0 := row_frozen HR.out (j * 3)
      have hT0 := markText_any K hK0 (by omega)
      have hT1 : ∀ w, Calls Try.prog 31 #[.int .i64 ((K : Int) + 1 + 1)] w fun e w' => e = .returned (.string (mt (K + 2))) ∧ Below w.heap.size w w' := fun w => by
        rw [show (K : Int) + 1 + 1 = ((K + 2 : Nat) : Int) by omega]
        exact markText_any (K + 2) (by omega) (by omega) w
      have HE0 : Hid ((flatG ChV.cells (mixG M l j)).set (j * 3 + 0) (.string (mt K)) = flatG ChV.cells ((mixG M l j).set j ⟨mt K, l[j].has, l[j].now⟩)) := ⟨flat_field ch_len (mixG M l j) j 0 (by rw [HL.out]; exact h) (.string (mt K)) ⟨mt K, l[j].has, l[j].now⟩ (by omega) (by rw [mixG_get HML.out h]; rfl)⟩
      have HE1 : Hid ((flatG ChV.cells ((mixG M l j).set j ⟨mt K, l[j].has, l[j].now⟩)).set (j * 3 + 1) (.bool bm) = flatG ChV.cells ((mixG M l j).set j ⟨mt K, bm, l[j].now⟩)) := ⟨by
        rw [flat_field ch_len ((mixG M l j).set j ⟨mt K, l[j].has, l[j].now⟩) j 1 (by rw [List.length_set, HL.out]; exact h) (.bool bm) ⟨mt K, bm, l[j].now⟩ (by omega) (by rw [List.getElem_set_self]; rfl), List.set_set]⟩
      have HE2 : Hid ((flatG ChV.cells ((mixG M l j).set j ⟨mt K, bm, l[j].now⟩)).set (j * 3 + 2) (.string (mt (K + 2))) = flatG ChV.cells (mixG M l (j + 1))) := ⟨by
        rw [flat_field ch_len ((mixG M l j).set j ⟨mt K, bm, l[j].now⟩) j 2 (by rw [List.length_set, HL.out]; exact h) (.string (mt (K + 2))) ⟨mt K, bm, mt (K + 2)⟩ (by omega) (by rw [List.getElem_set_self]; rfl), List.set_set]
        have e := mixG_set HML.out h (by rw [HML.out]; exact h)
        have e2 : M[j]'(by rw [HML.out]; exact h) = ⟨mt K, bm, mt (K + 2)⟩ := by
          have hm := HM.out
          subst hm
          rw [markC_get, HK.out, HBm.out]
        rw [e2] at e
        rw [e]⟩
      go_wp2_with (first | (go_at_call 31; refine (hT0 _).mono ?_; rintro e w1 ⟨rfl, hb1⟩; have HR1 := hide (owns_stays2 HR.out hb1); have d0 := row_cell HR1.out (i := j * 3) (by have := HFl.out _ HL.out; omega); have g0 := row_frozen HR1.out (j * 3); have d1 := row_cell HR1.out (i := j * 3 + 1) (by have := HFl.out _ HL.out; omega); have g1 := row_frozen HR1.out (j * 3 + 1); have hr2 := owns_store HR1.out (j * 3 + 0) (.string (mt K)); rw [HE0.out] at hr2; have hr3 := owns_store hr2 (j * 3 + 1) (.bool bm); rw [HE1.out] at hr3; have HR3 : Hid (((w1.setCell ⟨g, j * 3, none⟩ (.string (mt K))).setCell ⟨g, j * 3 + 1, none⟩ (.bool bm)).ownsRow base 48 3 (.slice (some ⟨g, 0, none⟩) l.length cap) l.length (flatG ChV.cells ((mixG M l j).set j ⟨mt K, bm, l[j].now⟩))) := ⟨hr3⟩; have HG3 : Hid (w.grownBy ((w1.setCell ⟨g, j * 3, none⟩ (.string (mt K))).setCell ⟨g, j * 3 + 1, none⟩ (.bool bm)) (some g)) := ⟨grow_set (grow_set (grow_below HG.out hb1) _ _) _ _⟩; clear hT0 c0 f0 hb1 hr2 hr3) | (go_at_call 31; refine (hT1 _).mono ?_; rintro e w2 ⟨rfl, hb2⟩; have HR4 := hide (owns_stays2 HR3.out hb2); have d2 := row_cell HR4.out (i := j * 3 + 2) (HFl.out _ (by rw [List.length_set, HL.out])); have g2 := row_frozen HR4.out (j * 3 + 2); have hr5 := owns_store HR4.out (j * 3 + 2) (.string (mt (K + 2))); rw [HE2.out] at hr5; have HR5 := hide hr5; have HG5 := hide (grow_set (grow_below HG3.out hb2) (j * 3 + 2) (.string (mt (K + 2)))); clear hT1 d0 g0 d1 g1 hb2 hr5))
      go_roundw
      case rel =>
        refine ⟨j + 1, by omega, by go_num, ?_, HR5.out, HG5.out⟩
        have := HK.out
        refine congrArg (Value.int .i64) ?_
        omega
      case measure => simp [intOf]; omega
    · obtain rfl : j = l.length := by omega
      go_wp2
      go_ret
      exact ⟨by rw [← HK.out]; rfl, by have := HR.out; rwa [mixG_all HML.out] at this, HG.out⟩
set_option maxRecDepth 100000 in
theorem markChangeS_none (k0 : Nat) (w : World) (hk2 : k0 ≤ 1125899906842624) :
    Calls Try.prog 15 #[.slice none 0 0, .int .i64 (k0 : Int)] w fun e w' => e = .returned (.int .i64 (k0 : Int)) ∧ w = w' := by
  go_enter Try.func15, Try.ntmps15
  go_wp2
  go_loopw [1, 5] (fun kv i wr => i = .int .i64 0 ∧ kv = .int .i64 (k0 : Int) ∧ wr = w) (fun _ i _ => 0)
  case atStart => exact ⟨rfl, rfl, rfl⟩
  case round =>
    obtain ⟨rfl, rfl, rfl⟩ := hrel
    go_wp2
    go_ret
    exact ⟨rfl, rfl⟩
theorem markChangeS_any (l : List ChV) (ao : Option Addr) (cap base k0 : Nat) (w : World) (hl : l.length ≤ 1048576) (hk : 0 < k0) (hk2 : k0 ≤ 1125899906842624) (hO : w.ownsRow base 48 3 (.slice ao l.length cap) l.length (flatG ChV.cells l)) :
    Calls Try.prog 15 #[.slice ao l.length cap, .int .i64 (k0 : Int)] w fun e w' => e = .returned (.int .i64 ((k0 + 3 * l.length : Nat) : Int)) ∧ w'.ownsRow base 48 3 (.slice ao l.length cap) l.length (flatG ChV.cells (markC k0 l.length)) ∧ w.grownBy w' (Value.slice ao l.length cap).ownBlock := by
  rcases hO.2 with ⟨e, hn⟩ | ⟨g, cap', cur, e, hb, hg, h1, h2, h3, h4⟩
  · obtain rfl : l = [] := List.eq_nil_of_length_eq_zero hn
    simp only [Value.slice.injEq] at e
    obtain ⟨rfl, _, rfl⟩ := e
    refine (markChangeS_none k0 w hk2).mono ?_
    rintro e w' ⟨rfl, rfl⟩
    exact ⟨rfl, hO, grow_refl _ _⟩
  · simp only [Value.slice.injEq] at e
    obtain ⟨rfl, _, rfl⟩ := e
    exact markChangeS_some l g cap base k0 w hl hk hk2 hO
set_option maxRecDepth 100000 in
set_option maxHeartbeats 1000000 in
theorem heldChangeS_any (n k0 cap : Nat) (ao : Option Addr) (w : World) (hn : n ≤ 1048576) (hk : 0 < k0) (hk2 : k0 ≤ 1125899906842624) (hA : ChsAt w ao (markC k0 n)) :
    Calls Try.prog 16 #[.slice ao n cap, .int .i64 (k0 : Int)] w fun e w' => e = .returned (.int .i64 ((k0 + 3 * n : Nat) : Int)) ∧ Below w.heap.size w w' := by
  have HA := hide hA
  clear hA
  go_enter Try.func16, Try.ntmps16
  go_wp2
  go_loopw [1, 5] (fun kv i wr => ∃ j : Nat, j ≤ n ∧ i = .int .i64 j ∧ kv = .int .i64 ((k0 + 3 * j : Nat) : Int) ∧ Below w.heap.size w wr) (fun _ i _ => n - (intOf i).toNat)
  case atStart => exact ⟨0, by omega, rfl, by go_num, Below.refl _ _⟩
  case round =>
    obtain ⟨j, hj, rfl, rfl, hb⟩ := hrel
    obtain ⟨K, hK⟩ : ∃ K, k0 + 3 * j = K := ⟨_, rfl⟩
    have HK := hide hK
    have hK2 : K ≤ 1125902000000000 + 1048576 := by omega
    have hK0 : 0 < K := by omega
    rw [hK]
    clear hK
    by_cases h : j < n
    · have hi0 : (0 : Int) ≤ (j : Int) := by omega
      have hi1 : (j : Int) < (n : Int) := by omega
      obtain ⟨b, off, rfl, hlt, ho⟩ := HA.out j (by rw [markC_len]; exact h)
      rw [markC_get, HK.out] at ho
      have hmod := thB_is K
      obtain ⟨bm, hbm⟩ : ∃ bm, thB K = bm := ⟨_, rfl⟩
      rw [hbm] at hmod ho
      clear hbm
      obtain ⟨c0, c1, c2⟩ := ho.block (w' := wr) (hb.block b hlt)
      have HO := hide ho
      clear ho
      have hT0 := markText_any K hK0 (by omega)
      have hT1 : ∀ w, Calls Try.prog 31 #[.int .i64 ((K : Int) + 1 + 1)] w fun e w' => e = .returned (.string (mt (K + 2))) ∧ Below w.heap.size w w' := fun w => by
        rw [show (K : Int) + 1 + 1 = ((K + 2 : Nat) : Int) by omega]
        exact markText_any (K + 2) (by omega) (by omega) w
      go_wp2
      go_region_with (go_at_call 31; refine (hT0 wr.drew).mono ?_; rintro e w1 ⟨rfl, hb1⟩; have hB1 := hb.drew.trans (hb1.mono hb.size); obtain ⟨d0, d1, d2⟩ := HO.out.block (w' := w1) (hB1.block b hlt))
      all_goals (
        clear hT0 c0 c1 c2
        go_wp2
        go_region_with (go_at_call 31; refine (hT1 w1.drew).mono ?_; rintro e w2 ⟨rfl, hb2⟩; have hB2 := hB1.drew.trans (hb2.mono hB1.size); obtain ⟨e0, e1, e2⟩ := HO.out.block (w' := w2) (hB2.block b hlt))
        all_goals (
          go_wp2
          go_roundw
          case rel =>
            refine ⟨j + 1, by omega, by go_num, ?_, hB2⟩
            have := HK.out
            refine congrArg (Value.int .i64) ?_
            omega
          case measure => simp [intOf]; omega))
    · obtain rfl : j = n := by omega
      go_wp2
      go_ret
      exact ⟨by rw [← HK.out]; rfl, hb⟩
end Go.Proofs.Ytmidembbanlleag.OpR
