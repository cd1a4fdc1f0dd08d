/- Proves what the harness' marks do to rows, and what its look at them tells. -/
import Derived.Test.YtmidembbanlleagMkN
import Derived.Test.YtmidembbanlleagRwM
namespace Go.Proofs.Ytmidembbanlleag.OpR
open Go.ChangeShapes Go.WideShapes Go.ChangeAt Go.RowKit
set_option linter.unusedVariables false

set_option maxRecDepth 100000 in
set_option maxHeartbeats 1000000 in
theorem markRowS_some (l : List PropV) (g cap base k0 : Nat) (w : World) (hl : l.length ≤ 1048576) (hk : 0 < k0) (hk2 : k0 ≤ 1125899906842624) (hO : w.ownsRow base 43 2 (.slice (some ⟨g, 0, none⟩) l.length cap) l.length (flatG PropV.cells l)) :
    Calls Try.prog 14 #[.slice (some ⟨g, 0, none⟩) l.length cap, .int .i64 (k0 : Int)] w fun e w' => e = .returned (.int .i64 ((k0 + 2 * l.length : Nat) : Int)) ∧ w'.ownsRow base 43 2 (.slice (some ⟨g, 0, none⟩) l.length cap) l.length (flatG PropV.cells (markP k0 l.length)) ∧ w.grownBy w' (some g) := by
  have HO := hide hO
  have hml := markP_len k0 l.length
  obtain ⟨M, hM⟩ : ∃ M, markP k0 l.length = M := ⟨_, rfl⟩
  rw [hM] at hml ⊢
  have HM := hide hM
  have HML := hide hml
  clear hO hM hml
  go_enter Try.func14, Try.ntmps14
  go_wp2
  go_loopw [1, 5] (fun kv i wr => ∃ j : Nat, j ≤ l.length ∧ i = .int .i64 j ∧ kv = .int .i64 ((k0 + 2 * j : Nat) : Int) ∧ wr.ownsRow base 43 2 (.slice (some ⟨g, 0, none⟩) l.length cap) l.length (flatG PropV.cells (mixG M l j)) ∧ w.grownBy wr (some g)) (fun _ i _ => l.length - (intOf i).toNat)
  case atStart => exact ⟨0, by omega, rfl, by go_num, by rw [mixG_zero]; exact HO.out, grow_refl _ _⟩
  case round =>
    obtain ⟨j, hj, rfl, rfl, hR, hg⟩ := hrel
    have HR := hide hR
    have HG := hide hg
    clear hR hg
    obtain ⟨K, hK⟩ : ∃ K, k0 + 2 * j = K := ⟨_, rfl⟩
    have HK := hide hK
    have hK2 : K ≤ 1125902000000000 := by omega
    have hK0 : 0 < K := by omega
    rw [hK]
    clear hK
    by_cases h : j < l.length
    · have hi0 : (0 : Int) ≤ (j : Int) := by omega
      have hi1 : (j : Int) < (l.length : Int) := by omega
      have HL : Hid ((mixG M l j).length = l.length) := ⟨mixG_len HML.out hj⟩
      have HFl : Hid (∀ d : List PropV, d.length = l.length → j * 2 + 1 < (flatG PropV.cells d).length) := ⟨fun d hd => by rw [flatG_len prop_len, hd]; omega⟩
      have c0 := row_cell HR.out (i := j * 2) (by have := HFl.out _ HL.out; omega)
      have f0 := row_frozen HR.out (j * 2)
      have hT0 := markText_any K hK0 (by omega)
      have hT1 : ∀ w, Calls Try.prog 31 #[.int .i64 ((K : Int) + 1)] w fun e w' => e = .returned (.string (mt (K + 1))) ∧ Below w.heap.size w w' := fun w => by
        rw [show (K : Int) + 1 = ((K + 1 : Nat) : Int) by omega]
        exact markText_any (K + 1) (by omega) (by omega) w
      have HE0 : Hid ((flatG PropV.cells (mixG M l j)).set (j * 2 + 0) (.string (mt K)) = flatG PropV.cells ((mixG M l j).set j ⟨mt K, l[j].value⟩)) := ⟨flat_field prop_len (mixG M l j) j 0 (by rw [HL.out]; exact h) (.string (mt K)) ⟨mt K, l[j].value⟩ (by omega) (by rw [mixG_get HML.out h]; rfl)⟩
      have HE1 : Hid ((flatG PropV.cells ((mixG M l j).set j ⟨mt K, l[j].value⟩)).set (j * 2 + 1) (.string (mt (K + 1))) = flatG PropV.cells (mixG M l (j + 1))) := ⟨by
        rw [flat_field prop_len ((mixG M l j).set j ⟨mt K, l[j].value⟩) j 1 (by rw [List.length_set, HL.out]; exact h) (.string (mt (K + 1))) ⟨mt K, mt (K + 1)⟩ (by omega) (by rw [List.getElem_set_self]; rfl), List.set_set]
        have e := mixG_set HML.out h (by rw [HML.out]; exact h)
        have e2 : M[j]'(by rw [HML.out]; exact h) = ⟨mt K, mt (K + 1)⟩ := by
          have hm := HM.out
          subst hm
          rw [markP_get, HK.out]
        rw [e2] at e
        rw [e]⟩
      go_wp2_with (first | (go_at_call 31; refine (hT0 _).mono ?_; rintro e w1 ⟨rfl, hb1⟩; have HR1 := hide (owns_stays2 HR.out hb1); have d0 := row_cell HR1.out (i := j * 2) (by have := HFl.out _ HL.out; omega); have g0 := row_frozen HR1.out (j * 2); have hr2 := owns_store HR1.out (j * 2 + 0) (.string (mt K)); rw [HE0.out] at hr2; have HR2 : Hid ((w1.setCell ⟨g, j * 2, none⟩ (.string (mt K))).ownsRow base 43 2 (.slice (some ⟨g, 0, none⟩) l.length cap) l.length (flatG PropV.cells ((mixG M l j).set j ⟨mt K, l[j].value⟩))) := ⟨hr2⟩; have HG2 : Hid (w.grownBy (w1.setCell ⟨g, j * 2, none⟩ (.string (mt K))) (some g)) := ⟨grow_set (grow_below HG.out hb1) _ _⟩; clear hT0 c0 f0 hb1 hr2) | (go_at_call 31; refine (hT1 _).mono ?_; rintro e w2 ⟨rfl, hb2⟩; have HR3 := hide (owns_stays2 HR2.out hb2); have d1 := row_cell HR3.out (i := j * 2 + 1) (HFl.out _ (by rw [List.length_set, HL.out])); have g1 := row_frozen HR3.out (j * 2 + 1); have hr4 := owns_store HR3.out (j * 2 + 1) (.string (mt (K + 1))); rw [HE1.out] at hr4; have HR4 := hide hr4; have HG4 := hide (grow_set (grow_below HG2.out hb2) (j * 2 + 1) (.string (mt (K + 1)))); clear hT1 d0 g0 hb2 hr4))
      go_roundw
      case rel =>
        refine ⟨j + 1, by omega, by go_num, ?_, HR4.out, HG4.out⟩
        have := HK.out
        refine congrArg (Value.int .i64) ?_
        omega
      case measure => simp [intOf]; omega
    · obtain rfl : j = l.length := by omega
      go_wp2
      go_ret
      exact ⟨by rw [← HK.out]; rfl, by have := HR.out; rwa [mixG_all HML.out] at this, HG.out⟩
set_option maxRecDepth 100000 in
theorem markRowS_none (k0 : Nat) (w : World) (hk2 : k0 ≤ 1125899906842624) :
    Calls Try.prog 14 #[.slice none 0 0, .int .i64 (k0 : Int)] w fun e w' => e = .returned (.int .i64 (k0 : Int)) ∧ w = w' := by
  go_enter Try.func14, Try.ntmps14
  go_wp2
  go_loopw [1, 5] (fun kv i wr => i = .int .i64 0 ∧ kv = .int .i64 (k0 : Int) ∧ wr = w) (fun _ i _ => 0)
  case atStart => exact ⟨rfl, rfl, rfl⟩
  case round =>
    obtain ⟨rfl, rfl, rfl⟩ := hrel
    go_wp2
    go_ret
    exact ⟨rfl, rfl⟩
theorem markRowS_any (l : List PropV) (ao : Option Addr) (cap base k0 : Nat) (w : World) (hl : l.length ≤ 1048576) (hk : 0 < k0) (hk2 : k0 ≤ 1125899906842624) (hO : w.ownsRow base 43 2 (.slice ao l.length cap) l.length (flatG PropV.cells l)) :
    Calls Try.prog 14 #[.slice ao l.length cap, .int .i64 (k0 : Int)] w fun e w' => e = .returned (.int .i64 ((k0 + 2 * l.length : Nat) : Int)) ∧ w'.ownsRow base 43 2 (.slice ao l.length cap) l.length (flatG PropV.cells (markP k0 l.length)) ∧ w.grownBy w' (Value.slice ao l.length cap).ownBlock := by
  rcases hO.2 with ⟨e, hn⟩ | ⟨g, cap', cur, e, hb, hg, h1, h2, h3, h4⟩
  · obtain rfl : l = [] := List.eq_nil_of_length_eq_zero hn
    simp only [Value.slice.injEq] at e
    obtain ⟨rfl, _, rfl⟩ := e
    refine (markRowS_none k0 w hk2).mono ?_
    rintro e w' ⟨rfl, rfl⟩
    exact ⟨rfl, hO, grow_refl _ _⟩
  · simp only [Value.slice.injEq] at e
    obtain ⟨rfl, _, rfl⟩ := e
    exact markRowS_some l g cap base k0 w hl hk hk2 hO
set_option maxRecDepth 100000 in
set_option maxHeartbeats 1000000 in
theorem heldRowS_any (n k0 cap : Nat) (ao : Option Addr) (w : World) (hn : n ≤ 1048576) (hk : 0 < k0) (hk2 : k0 ≤ 1125899906842624) (hA : PropsAt w ao (markP k0 n)) :
    Calls Try.prog 21 #[.slice ao n cap, .int .i64 (k0 : Int)] w fun e w' => e = .returned (.int .i64 ((k0 + 2 * n : Nat) : Int)) ∧ Below w.heap.size w w' := by
  have HA := hide hA
  clear hA
  go_enter Try.func21, Try.ntmps21
  go_wp2
  go_loopw [1, 5] (fun kv i wr => ∃ j : Nat, j ≤ n ∧ i = .int .i64 j ∧ kv = .int .i64 ((k0 + 2 * j : Nat) : Int) ∧ Below w.heap.size w wr) (fun _ i _ => n - (intOf i).toNat)
  case atStart => exact ⟨0, by omega, rfl, by go_num, Below.refl _ _⟩
  case round =>
    obtain ⟨j, hj, rfl, rfl, hb⟩ := hrel
    obtain ⟨K, hK⟩ : ∃ K, k0 + 2 * j = K := ⟨_, rfl⟩
    have HK := hide hK
    have hK2 : K ≤ 1125902000000000 := by omega
    have hK0 : 0 < K := by omega
    rw [hK]
    clear hK
    by_cases h : j < n
    · have hi0 : (0 : Int) ≤ (j : Int) := by omega
      have hi1 : (j : Int) < (n : Int) := by omega
      obtain ⟨b, off, rfl, hlt, ho⟩ := HA.out j (by rw [markP_len]; exact h)
      rw [markP_get, HK.out] at ho
      obtain ⟨c0, c1⟩ := ho.block (w' := wr) (hb.block b hlt)
      have HO := hide ho
      clear ho
      have hT0 := markText_any K hK0 (by omega)
      have hT1 : ∀ w, Calls Try.prog 31 #[.int .i64 ((K : Int) + 1)] w fun e w' => e = .returned (.string (mt (K + 1))) ∧ Below w.heap.size w w' := fun w => by
        rw [show (K : Int) + 1 = ((K + 1 : Nat) : Int) by omega]
        exact markText_any (K + 1) (by omega) (by omega) w
      go_wp2
      go_region_with (go_at_call 31; refine (hT0 wr.drew).mono ?_; rintro e w1 ⟨rfl, hb1⟩; have hB1 := hb.drew.trans (hb1.mono hb.size); obtain ⟨d0, d1⟩ := HO.out.block (w' := w1) (hB1.block b hlt))
      all_goals (
        clear hT0 c0 c1
        go_wp2
        go_region_with (go_at_call 31; refine (hT1 w1.drew).mono ?_; rintro e w2 ⟨rfl, hb2⟩; have hB2 := hB1.drew.trans (hb2.mono hB1.size); obtain ⟨e0, e1⟩ := HO.out.block (w' := w2) (hB2.block b hlt))
        all_goals (
          go_wp2
          go_roundw
          case rel =>
            refine ⟨j + 1, by omega, by go_num, ?_, hB2⟩
            have := HK.out
            refine congrArg (Value.int .i64) ?_
            omega
          case measure => simp [intOf]; omega))
    · obtain rfl : j = n := by omega
      go_wp2
      go_ret
      exact ⟨by rw [← HK.out]; rfl, hb⟩
end Go.Proofs.Ytmidembbanlleag.OpR
