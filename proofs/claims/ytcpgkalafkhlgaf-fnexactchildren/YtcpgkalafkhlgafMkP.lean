/- Proves what the harness' marks do to props, and what its look at them tells. -/
import Derived.Test.YtcpgkalafkhlgafMark
import Derived.Test.YtcpgkalafkhlgafRowS
namespace Go.Proofs.Ytcpgkalafkhlgaf.OpR
open Go.ChangeShapes Go.WideShapes Go.ChangeAt Go.RowKit
set_option linter.unusedVariables false

/-- Props that are marked from k on. -/
def markP (k n : Nat) : List PropV := (List.range n).map fun j => ⟨mt (k + 2 * j), mt (k + 2 * j + 1)⟩
theorem markP_len (k n : Nat) : (markP k n).length = n := by simp [markP]
theorem markP_get {k n j : Nat} (h : j < (markP k n).length) : (markP k n)[j] = ⟨mt (k + 2 * j), mt (k + 2 * j + 1)⟩ := by simp [markP]
/-- The first ones of one list, the rest of another. -/
def mixG {α : Type} (a b : List α) (j : Nat) : List α := a.take j ++ b.drop j
theorem mixG_len {α : Type} {a b : List α} (h : a.length = b.length) {j : Nat} (hj : j ≤ b.length) : (mixG a b j).length = b.length := by simp [mixG]; omega
theorem mixG_get {α : Type} {a b : List α} (h : a.length = b.length) {j : Nat} (hj : j < b.length) (hm : j < (mixG a b j).length) : (mixG a b j)[j] = b[j] := by
  simp only [mixG]
  rw [List.getElem_append_right (by simp; omega)]
  simp [Nat.min_eq_left (show j ≤ a.length by omega)]
theorem mixG_set {α : Type} {a b : List α} (h : a.length = b.length) {j : Nat} (hj : j < b.length) (ha : j < a.length) : (mixG a b j).set j a[j] = mixG a b (j + 1) := by
  unfold mixG
  have e1 : (a.take j).length = j := by simp; omega
  rw [List.set_append_right _ _ (by omega), e1, Nat.sub_self, List.drop_eq_getElem_cons hj, List.set_cons_zero, ← List.take_append_getElem ha, List.append_assoc]
  rfl
theorem mixG_all {α : Type} {a b : List α} (h : a.length = b.length) : mixG a b b.length = a := by simp [mixG, ← h]
theorem mixG_zero {α : Type} (a b : List α) : mixG a b 0 = b := by simp [mixG]
theorem row_cell {w : World} {base : Nat} {T : TypeId} {c g n cap : Nat} {xs : List Value} (h : w.ownsRow base T c (.slice (some ⟨g, 0, none⟩) n cap) n xs) {i : Nat} (hi : i < xs.length) : w.cell? ⟨g, i, none⟩ = some xs[i] := by
  have := h.cells rfl i xs[i] (List.getElem?_eq_getElem hi)
  rwa [Addr.add_lit, Nat.zero_add] at this
theorem grow_refl (W : World) (r : Option Nat) : W.grownBy W r := ⟨rfl, rfl, rfl, Nat.le_refl _, fun _ _ _ => rfl⟩
theorem grow_set {w c : World} {g : Nat} (h : w.grownBy c (some g)) (p : Nat) (u : Value) : w.grownBy (c.setCell ⟨g, p, none⟩ u) (some g) :=
  ⟨h.os, h.tape, h.output, Nat.le_trans h.size (by simp [World.setCell]), fun k hk hne => (Below.heap_setCell _ _ _ _ (fun e => hne (by rw [e]))).trans (h.block k hk hne)⟩
theorem grow_below {w c c' : World} {r : Option Nat} (h : w.grownBy c r) (hb : Below c.heap.size c c') : w.grownBy c' r :=
  ⟨hb.os.trans h.os, hb.tape.trans h.tape, hb.output.trans h.output, Nat.le_trans h.size hb.size, fun k hk hne => (hb.block k (Nat.lt_of_lt_of_le hk h.size)).trans (h.block k hk hne)⟩

set_option maxRecDepth 100000 in
set_option maxHeartbeats 1000000 in
theorem markPropS_some (l : List PropV) (g cap base k0 : Nat) (w : World) (hl : l.length ≤ 1048576) (hk : 0 < k0) (hk2 : k0 ≤ 1125899906842624) (hO : w.ownsRow base 64 2 (.slice (some ⟨g, 0, none⟩) l.length cap) l.length (flatG PropV.cells l)) :
    Calls Try.prog 52 #[.slice (some ⟨g, 0, none⟩) l.length cap, .int .i64 (k0 : Int)] w fun e w' => e = .returned (.int .i64 ((k0 + 2 * l.length : Nat) : Int)) ∧ w'.ownsRow base 64 2 (.slice (some ⟨g, 0, none⟩) l.length cap) l.length (flatG PropV.cells (markP k0 l.length)) ∧ w.grownBy w' (some g) := by
  have HO := hide hO
  have hml := markP_len k0 l.length
  obtain ⟨M, hM⟩ : ∃ M, markP k0 l.length = M := ⟨_, rfl⟩
  rw [hM] at hml ⊢
  have HM := hide hM
  have HML := hide hml
  clear hO hM hml
  go_enter Try.func52, Try.ntmps52
  go_wp2
  go_loopw [1, 5] (fun kv i wr => ∃ j : Nat, j ≤ l.length ∧ i = .int .i64 j ∧ kv = .int .i64 ((k0 + 2 * j : Nat) : Int) ∧ wr.ownsRow base 64 2 (.slice (some ⟨g, 0, none⟩) l.length cap) l.length (flatG PropV.cells (mixG M l j)) ∧ w.grownBy wr (some g)) (fun _ i _ => l.length - (intOf i).toNat)
  case atStart => exact ⟨0, by omega, rfl, by go_num, by rw [mixG_zero]; exact HO.out, grow_refl _ _⟩
  case round =>
    obtain ⟨j, hj, rfl, rfl, hR, hg⟩ := hrel
    have HR := hide hR
    have HG := hide hg
    clear hR hg
    obtain ⟨K, hK⟩ : ∃ K, k0 + 2 * j = K := ⟨_, rfl⟩
    have HK := hide hK
    have hK2 : K ≤ 1125902000000000 := by omega
    have hK0 : 0 < K := by omega
    rw [hK]
    clear hK
    by_cases h : j < l.length
    · have hi0 : (0 : Int) ≤ (j : Int) := by omega
      have hi1 : (j : Int) < (l.length : Int) := by omega
      have HL : Hid ((mixG M l j).length = l.length) := ⟨mixG_len HML.out hj⟩
      have HFl : Hid (∀ d : List PropV, d.length = l.length → j * 2 + 1 < (flatG PropV.cells d).length) := ⟨fun d hd => by rw [flatG_len prop_len, hd]; omega⟩
      have c0 := row_cell HR.out (i := j * 2) (by have := HFl.out _ HL.out; omega)
      have f0 := row_frozen HR.out (j * 2)
      have hT0 := markText_any K hK0 (by omega)
      have hT1 : ∀ w, Calls Try.prog 51 #[.int .i64 ((K : Int) + 1)] w fun e w' => e = .returned (.string (mt (K + 1))) ∧ Below w.heap.size w w' := fun w => by
        rw [show (K : Int) + 1 = ((K + 1 : Nat) : Int) by omega]
        exact markText_any (K + 1) (by omega) (by omega) w
      have HE0 : Hid ((flatG PropV.cells (mixG M l j)).set (j * 2 + 0) (.string (mt K)) = flatG PropV.cells ((mixG M l j).set j ⟨mt K, l[j].value⟩)) := ⟨flat_field prop_len (mixG M l j) j 0 (by rw [HL.out]; exact h) (.string (mt K)) ⟨mt K, l[j].value⟩ (by omega) (by rw [mixG_get HML.out h]; rfl)⟩
      have HE1 : Hid ((flatG PropV.cells ((mixG M l j).set j ⟨mt K, l[j].value⟩)).set (j * 2 + 1) (.string (mt (K + 1))) = flatG PropV.cells (mixG M l (j + 1))) := ⟨by
        rw [flat_field prop_len ((mixG M l j).set j ⟨mt K, l[j].value⟩) j 1 (by rw [List.length_set, HL.out]; exact h) (.string (mt (K + 1))) ⟨mt K, mt (K + 1)⟩ (by omega) (by rw [List.getElem_set_self]; rfl), List.set_set]
        have e := mixG_set HML.out h (by rw [HML.out]; exact h)
        have e2 : M[j]'(by rw [HML.out]; exact h) = ⟨mt K, mt (K + 1)⟩ := by
          have hm := HM.out
          subst hm
          rw [markP_get, HK.out]
        rw [e2] at e
        rw [e]⟩
      go_wp2_with (first | (go_at_call 51; refine (hT0 _).mono ?_; rintro e w1 ⟨rfl, hb1⟩; have HR1 := hide (owns_stays2 HR.out hb1); have d0 := row_cell HR1.out (i := j * 2) (by have := HFl.out _ HL.out; omega); have g0 := row_frozen HR1.out (j * 2); have hr2 := owns_store HR1.out (j * 2 + 0) (.string (mt K)); rw [HE0.out] at hr2; have HR2 : Hid ((w1.setCell ⟨g, j * 2, none⟩ (.string (mt K))).ownsRow base 64 2 (.slice (some ⟨g, 0, none⟩) l.length cap) l.length (flatG PropV.cells ((mixG M l j).set j ⟨mt K, l[j].value⟩))) := ⟨hr2⟩; have HG2 : Hid (w.grownBy (w1.setCell ⟨g, j * 2, none⟩ (.string (mt K))) (some g)) := ⟨grow_set (grow_below HG.out hb1) _ _⟩; clear hT0 c0 f0 hb1 hr2) | (go_at_call 51; refine (hT1 _).mono ?_; rintro e w2 ⟨rfl, hb2⟩; have HR3 := hide (owns_stays2 HR2.out hb2); have d1 := row_cell HR3.out (i := j * 2 + 1) (HFl.out _ (by rw [List.length_set, HL.out])); have g1 := row_frozen HR3.out (j * 2 + 1); have hr4 := owns_store HR3.out (j * 2 + 1) (.string (mt (K + 1))); rw [HE1.out] at hr4; have HR4 := hide hr4; have HG4 := hide (grow_set (grow_below HG2.out hb2) (j * 2 + 1) (.string (mt (K + 1)))); clear hT1 d0 g0 hb2 hr4))
      go_roundw
      case rel =>
        refine ⟨j + 1, by omega, by go_num, ?_, HR4.out, HG4.out⟩
        have := HK.out
        refine congrArg (Value.int .i64) ?_
        omega
      case measure => simp [intOf]; omega
    · obtain rfl : j = l.length := by omega
      go_wp2
      go_ret
      exact ⟨by rw [← HK.out]; rfl, by have := HR.out; rwa [mixG_all HML.out] at this, HG.out⟩
set_option maxRecDepth 100000 in
theorem markPropS_none (k0 : Nat) (w : World) (hk2 : k0 ≤ 1125899906842624) :
    Calls Try.prog 52 #[.slice none 0 0, .int .i64 (k0 : Int)] w fun e w' => e = .returned (.int .i64 (k0 : Int)) ∧ w = w' := by
  go_enter Try.func52, Try.ntmps52
  go_wp2
  go_loopw [1, 5] (fun kv i wr => i = .int .i64 0 ∧ kv = .int .i64 (k0 : Int) ∧ wr = w) (fun _ i _ => 0)
  case atStart => exact ⟨rfl, rfl, rfl⟩
  case round =>
    obtain ⟨rfl, rfl, rfl⟩ := hrel
    go_wp2
    go_ret
    exact ⟨rfl, rfl⟩
theorem markPropS_any (l : List PropV) (ao : Option Addr) (cap base k0 : Nat) (w : World) (hl : l.length ≤ 1048576) (hk : 0 < k0) (hk2 : k0 ≤ 1125899906842624) (hO : w.ownsRow base 64 2 (.slice ao l.length cap) l.length (flatG PropV.cells l)) :
    Calls Try.prog 52 #[.slice ao l.length cap, .int .i64 (k0 : Int)] w fun e w' => e = .returned (.int .i64 ((k0 + 2 * l.length : Nat) : Int)) ∧ w'.ownsRow base 64 2 (.slice ao l.length cap) l.length (flatG PropV.cells (markP k0 l.length)) ∧ w.grownBy w' (Value.slice ao l.length cap).ownBlock := by
  rcases hO.2 with ⟨e, hn⟩ | ⟨g, cap', cur, e, hb, hg, h1, h2, h3, h4⟩
  · obtain rfl : l = [] := List.eq_nil_of_length_eq_zero hn
    simp only [Value.slice.injEq] at e
    obtain ⟨rfl, _, rfl⟩ := e
    refine (markPropS_none k0 w hk2).mono ?_
    rintro e w' ⟨rfl, rfl⟩
    exact ⟨rfl, hO, grow_refl _ _⟩
  · simp only [Value.slice.injEq] at e
    obtain ⟨rfl, _, rfl⟩ := e
    exact markPropS_some l g cap base k0 w hl hk hk2 hO
end Go.Proofs.Ytcpgkalafkhlgaf.OpR
