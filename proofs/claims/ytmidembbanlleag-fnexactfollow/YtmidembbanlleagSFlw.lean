/- Proves what spec.Follow answers. -/
import Derived.Test.YtmidembbanlleagIFlw
import Derived.Test.YtmidembbanlleagRowO
import Derived.Deep.QuietTactic
import Derived.BigQuiet
namespace Go.Proofs.Ytmidembbanlleag.OpR
open Go.ChangeShapes Go.WideShapes Go.ChangeAt Go.RowKit
set_option linter.unusedVariables false

theorem empty_rowR (X : World) : (X.alloc (.cells #[] 43)).ownsRow X.heap.size 43 2 (.slice (some ⟨X.heap.size, 0, none⟩) 0 0) ([] : List PropV).length (flatG PropV.cells []) :=
  World.ownsRow_made X #[] 0 (Nat.le_refl _) (by decide) rfl
theorem newRowD (x : World) (k v : ByteArray) (T : TypeId) : PropsAt (x.alloc (.cells #[.string k, .string v] T)).drew (some ⟨x.heap.size, 0, none⟩) [⟨k, v⟩] := newRow x k v T
theorem below_drewN {B : Nat} {a b : World} (h : Below B a b) (n : Nat) : Below B a (b.drewN n) := ⟨h.os, h.tape, h.output, h.size, h.block⟩
theorem sflw_lt {out tot was : List PropV} {l : List ChV} {i k : Nat} (hi : i < was.length) (hk : k < l.length) (h : keyLt was[i].key l[k].key = true) (hM : out ++ flw (l.drop k) (was.drop i) = tot) : (out ++ [was[i]]) ++ flw (l.drop k) (was.drop (i + 1)) = tot := by
  rw [← hM, List.drop_eq_getElem_cons hi, List.drop_eq_getElem_cons hk, flw_lt h]; simp
theorem sflw_last {out tot was : List PropV} {l : List ChV} {i k : Nat} (hi : i < was.length) (hk : l.length ≤ k) (hM : out ++ flw (l.drop k) (was.drop i) = tot) : (out ++ [was[i]]) ++ flw (l.drop k) (was.drop (i + 1)) = tot := by
  rw [← hM, List.drop_of_length_le hk, flw, flw, List.drop_eq_getElem_cons hi]; simp
theorem sflw_eq {out tot was : List PropV} {l : List ChV} {i k : Nat} (hi : i < was.length) (hk : k < l.length) (h : keyLt was[i].key l[k].key = false) (he : was[i].key = l[k].key) (hM : out ++ flw (l.drop k) (was.drop i) = tot) : (out ++ rowC l[k]) ++ flw (l.drop (k + 1)) (was.drop (i + 1)) = tot := by
  rw [← hM, List.drop_eq_getElem_cons hi, List.drop_eq_getElem_cons hk, flw_eq h he]; simp
theorem sflw_ne {out tot was : List PropV} {l : List ChV} {i k : Nat} (hk : k < l.length) (h : ∀ hi : i < was.length, keyLt was[i].key l[k].key = false ∧ ¬ was[i].key = l[k].key) (hM : out ++ flw (l.drop k) (was.drop i) = tot) : (out ++ rowC l[k]) ++ flw (l.drop (k + 1)) (was.drop i) = tot := by
  rw [← hM, List.drop_eq_getElem_cons hk]
  by_cases hi : i < was.length
  · rw [List.drop_eq_getElem_cons hi, flw_ne (h hi).1 (h hi).2]; simp
  · have e : was.drop i = [] := List.drop_of_length_le (by omega)
    rw [e, flw_none]; simp
set_option maxRecDepth 100000 in
set_option maxHeartbeats 16000000 in
theorem sFollow_any (was : List PropV) (l : List ChV) (ao lo : Option Addr) (ca cl : Nat) (w : World) (hwl : was.length ≤ maxLen) (hll : l.length ≤ maxLen) (hA : PropsAt w ao was) (hC : ChsAt w lo l) :
    Calls Try.prog 18 #[.slice ao was.length ca, .slice lo l.length cl] w fun e w' => ∃ v, e = .returned v ∧ w'.ownsRow w.heap.size 43 2 v (followRes was l).length (flatG PropV.cells (followRes was l)) ∧ Below w.heap.size w w' := by
  have hrr := fun W (hW : Below w.heap.size w W) => sRowsRight_any was ao ca W hwl (hA.stays hW)
  have HRR := hide hrr
  have HA := hide hA
  have HC := hide hC
  have HB0 := hide ((Below.refl w.heap.size w).alloc (Nat.le_refl _) (.cells #[] 43))
  have HO0 := hide (empty_rowR w)
  unfold maxLen at hwl hll
  clear hA hC hrr
  by_cases hw4 : was.length ≤ 400
  · have hd1 : decide ((400 : Int) < (was.length : Int)) = false := by simp; omega
    by_cases hl4 : l.length ≤ 400
    · have hd2 : decide ((400 : Int) < (l.length : Int)) = false := by simp; omega
      cases hr : rowsRight was
      · have HF := hide (follow_no (was := was) (l := l) (fun h => by rw [hr] at h; exact absurd h.2.1 (by decide)))
        have HR1 := hide hr
        clear hr
        go_enter Try.func18, Try.ntmps18
        go_wp2_with (first | (go_at_call 7; have h1 := HRR.out _ HB0.out; rw [HR1.out] at h1; refine h1.mono ?_; rintro e w1 ⟨rfl, hb1⟩; clear h1))
        go_ret
        exact ⟨_, rfl, by rw [HF.out]; exact owns_stays2 HO0.out hb1, HB0.out.trans (hb1.mono HB0.out.size)⟩
      · have HR1 := hide hr
        have hw150 : was.length ≤ 150 := ((rowsRight_iff was).1 hr).1
        clear hr
        go_enter Try.func18, Try.ntmps18
        go_wp2_with (first | (go_at_call 7; have h1 := HRR.out _ HB0.out; rw [HR1.out] at h1; refine h1.mono ?_; rintro e w1 ⟨rfl, hb1⟩; have HB1 := hide (HB0.out.trans (hb1.mono HB0.out.size)); have HO1 := hide (owns_stays2 HO0.out hb1); clear h1 hb1))
        go_loopw [6] (fun i wr => ∃ k : Nat, (k ≤ l.length ∨ k = 0) ∧ i = .int .i64 ((k : Int) + 1) ∧ (∀ j (h : j + 1 < l.length), j < k → keyLt l[j].key l[j + 1].key = true) ∧ Below w1.heap.size w1 wr) (fun i _ => l.length - (intOf i).toNat)
        case atStart => exact ⟨0, .inr rfl, by go_num, fun j h hj => by omega, Below.refl _ _⟩
        case round =>
          obtain ⟨k, hk, rfl, hal, hb⟩ := hrel
          have HL : Hid (∀ j (h : j + 1 < l.length), j < k → keyLt l[j].key l[j + 1].key = true) := ⟨hal⟩
          have hB : Below w.heap.size w wr := HB1.out.trans (hb.mono HB1.out.size)
          clear hal hk
          by_cases h : k + 1 < l.length
          · obtain ⟨b, off, rfl, hlt, ho⟩ := HC.out (k + 1) h
            have hT : (((k : Int) + 1).toNat) = k + 1 := by omega
            have hi3 : (0 : Int) ≤ (k : Int) + 1 := by omega
            have hW : IntKind.i64.wrap (k : Int) = (k : Int) := by rw [IntKind.wrap_i64]; omega
            have hW2 : wrap64 (k : Int) = (k : Int) := by unfold wrap64; omega
            obtain ⟨c0, c1, c2⟩ := ho.block (w' := wr) (hB.block b hlt)
            obtain ⟨b2, off2, hq, hlt2, ho2⟩ := HC.out k (by omega)
            cases hq
            obtain ⟨d0, d1, d2⟩ := ho2.block (w' := wr) (hB.block b hlt)
            have hi0 : (0 : Int) ≤ (k : Int) := by omega
            have hi1 : (k : Int) + 1 < (l.length : Int) := by omega
            have hi2 : (k : Int) < (l.length : Int) := by omega
            clear ho ho2
            cases ha : keyLt l[k].key l[k + 1].key
            · have HF : Hid (followRes was l = []) := ⟨follow_no fun hx => by rw [(chRise_iff l).1 hx.2.2.1 k h] at ha; cases ha⟩
              unfold keyLt at ha
              go_wp2
              go_region
              all_goals (go_wp2; go_ret; exact ⟨_, rfl, by rw [HF.out]; exact owns_stays2 HO1.out hb.drew, hB.drew⟩)
            · have HA2 := hide ha
              unfold keyLt at ha
              go_wp2
              go_region
              go_wp2
              go_roundw
              case rel =>
                refine ⟨k + 1, .inl (by omega), by go_num, fun j hj hjk => ?_, hb.drew⟩
                rcases Nat.lt_or_ge j k with h' | h'
                · exact HL.out j hj h'
                · obtain rfl : j = k := by omega
                  exact HA2.out
              case measure => simp [intOf]; omega
          · have HX : Hid (allTo l.length (chRise l) = true) := ⟨(chRise_iff l).2 fun j hj => HL.out j hj (by omega)⟩
            have HO2 := hide (owns_stays2 HO1.out hb)
            have HB2 := hide hB
            obtain ⟨wa, rfl⟩ : ∃ wa, wa = wr := ⟨_, rfl⟩
            clear HL hb hB
            go_wp2
            go_loopw [5, 7, 8] (fun vo vi vk wr => ∃ (i k : Nat) (out : List PropV), i ≤ was.length ∧ k ≤ l.length ∧ vi = .int .i64 i ∧ vk = .int .i64 k ∧ wr.ownsRow w.heap.size 43 2 vo out.length (flatG PropV.cells out) ∧ out ++ flw (l.drop k) (was.drop i) = flw l was ∧ out.length ≤ i + k ∧ Below w.heap.size w wr) (fun _ vi vk _ => (was.length - (intOf vi).toNat) + (l.length - (intOf vk).toNat))
            case atStart => exact ⟨0, 0, [], by omega, by omega, rfl, rfl, HO2.out, rfl, by simp, HB2.out⟩
            case round =>
              obtain ⟨i, k, out, hi, hk, rfl, rfl, hO, hM, hol, hb⟩ := hrel
              have HO := hide hO
              have HM := hide hM
              have hbs := hb.size
              have hi0 : (0 : Int) ≤ (i : Int) := by omega
              have hk0 : (0 : Int) ≤ (k : Int) := by omega
              clear hO hM
              by_cases hkl : k < l.length
              · have hk1 : (k : Int) < (l.length : Int) := by omega
                have hk2 : ((k : Int) == (l.length : Int)) = false := by simp; omega
                obtain ⟨b2, off2, rfl, hlt2, ho2⟩ := HC.out k hkl
                have HC2 := hide ho2
                obtain ⟨d0, d1, d2⟩ := ho2.block (w' := wr) (hb.block b2 hlt2)
                clear ho2
                by_cases hil : i < was.length
                · have hi1 : (i : Int) < (was.length : Int) := by omega
                  obtain ⟨b1, off1, rfl, hlt1, ho1⟩ := HA.out i hil
                  obtain ⟨c0, c1⟩ := ho1.block (w' := wr) (hb.block b1 hlt1)
                  have HC1 := hide ho1
                  clear ho1
                  cases ha : keyLt was[i].key l[k].key
                  · by_cases he : was[i].key = l[k].key
                    · have HM2 := hide (sflw_eq hil hkl ha he HM.out)
                      have hef : (was[i].key.toList == l[k].key.toList) = true := by rw [he]; exact beq_self_eq_true _
                      clear he
                      unfold keyLt at ha
                      go_wp2_with fail
                      go_quiet (fail)
                      obtain ⟨n1, rfl⟩ : ∃ n1, n1 = nq := ⟨_, rfl⟩
                      go_wp2_with fail
                      go_quiet (fail)
                      obtain ⟨X, hX⟩ : ∃ X, (wr.drewN n1).drewN nq = X := ⟨_, rfl⟩
                      have hBX : Below w.heap.size w X := by rw [← hX]; exact below_drewN (below_drewN hb _) _
                      have HOX : Hid (X.ownsRow w.heap.size 43 2 u5 out.length (flatG PropV.cells out)) := ⟨by rw [← hX]; exact HO.out⟩
                      have hXs := hBX.size
                      rw [hX]
                      obtain ⟨d0, d1, d2⟩ := HC2.out.block (w' := X) (hBX.block b2 hlt2)
                      have HD := hide (fun (W : World) (hW : Below w.heap.size w W) => HC2.out.block (w' := W) (hW.block b2 hlt2))
                      clear hX HC2
                      obtain ⟨ch, hch⟩ : ∃ ch, l[k].has = ch := ⟨_, rfl⟩
                      rw [hch] at d1
                      cases ch
                      · have HM3 : Hid (out ++ flw (l.drop (k + 1)) (was.drop (i + 1)) = flw l was) := ⟨by have := HM2.out; rwa [rowC_no hch, List.append_nil] at this⟩
                        clear hch
                        go_wp2
                        go_roundw
                        case rel => exact ⟨(i + 1), k + 1, out, by omega, by omega, by go_num, by go_num, HOX.out, HM3.out, by omega, hBX⟩
                        case measure => simp [intOf]; omega
                      · have HM3 : Hid ((out ++ [⟨l[k].key, l[k].now⟩]) ++ flw (l.drop (k + 1)) (was.drop (i + 1)) = flw l was) := ⟨by have := HM2.out; rwa [rowC_yes hch] at this⟩
                        clear hch
                        go_wp2
                        go_region_held3 (fun W => W.cell? ⟨b2, off2 + k * 3, none⟩ = some (.string l[k].key) ∧ W.cell? ⟨b2, off2 + k * 3 + 2, none⟩ = some (.string l[k].now)) (first | exact ⟨d0, d2⟩ | exact ⟨(HD.out _ (hBX.alloc hXs _).drew).1, (HD.out _ (hBX.alloc hXs _).drew).2.2⟩ | exact ⟨(HD.out _ hYY).1, (HD.out _ hYY).2.2⟩) ((refine step_append_R (by rfl) _ _ (by rfl) w.heap.size _ out (by rfl) ((HOX.out.alloc _).drewn) (some ⟨X.heap.size, 0, none⟩) [⟨l[k].key, l[k].now⟩] 1 (by rfl) (newRowD X l[k].key l[k].now _) (by simp; omega) (by simp; omega) ?_; intro a' n' c' y1 hn' hO1 hg1; have hYY : Below w.heap.size w y1 := (hBX.alloc hXs _).drew.grown hg1 (by simp; omega) (fun j hj => (HOX.out.lt j hj).1)))
                        have hn2 : n' = out.length + 1 := by rw [hn']; simp
                        rw [hn2] at hO1
                        have HO3 := hide hO1
                        clear hO1 hg1 hn' hn2
                        go_wp2
                        go_roundw
                        case rel => exact ⟨(i + 1), k + 1, out ++ [⟨l[k].key, l[k].now⟩], by omega, by omega, by go_num, by go_num, HO3.out, HM3.out, by simp; omega, hYY⟩
                        case measure => simp [intOf]; omega
                    · have HM2 := hide (sflw_ne hkl (fun _ => ⟨ha, he⟩) HM.out)
                      have hef : (was[i].key.toList == l[k].key.toList) = false := beq_eq_false_iff_ne.2 fun e => he (toListR_inj e)
                      clear he
                      unfold keyLt at ha
                      go_wp2_with fail
                      go_quiet (fail)
                      obtain ⟨n1, rfl⟩ : ∃ n1, n1 = nq := ⟨_, rfl⟩
                      go_wp2_with fail
                      go_quiet (fail)
                      obtain ⟨X, hX⟩ : ∃ X, (wr.drewN n1).drewN nq = X := ⟨_, rfl⟩
                      have hBX : Below w.heap.size w X := by rw [← hX]; exact below_drewN (below_drewN hb _) _
                      have HOX : Hid (X.ownsRow w.heap.size 43 2 u5 out.length (flatG PropV.cells out)) := ⟨by rw [← hX]; exact HO.out⟩
                      have hXs := hBX.size
                      rw [hX]
                      obtain ⟨d0, d1, d2⟩ := HC2.out.block (w' := X) (hBX.block b2 hlt2)
                      have HD := hide (fun (W : World) (hW : Below w.heap.size w W) => HC2.out.block (w' := W) (hW.block b2 hlt2))
                      clear hX HC2
                      obtain ⟨ch, hch⟩ : ∃ ch, l[k].has = ch := ⟨_, rfl⟩
                      rw [hch] at d1
                      cases ch
                      · have HM3 : Hid (out ++ flw (l.drop (k + 1)) (was.drop i) = flw l was) := ⟨by have := HM2.out; rwa [rowC_no hch, List.append_nil] at this⟩
                        clear hch
                        go_wp2
                        go_roundw
                        case rel => exact ⟨i, k + 1, out, by omega, by omega, rfl, by go_num, HOX.out, HM3.out, by omega, hBX⟩
                        case measure => simp [intOf]; omega
                      · have HM3 : Hid ((out ++ [⟨l[k].key, l[k].now⟩]) ++ flw (l.drop (k + 1)) (was.drop i) = flw l was) := ⟨by have := HM2.out; rwa [rowC_yes hch] at this⟩
                        clear hch
                        go_wp2
                        go_region_held3 (fun W => W.cell? ⟨b2, off2 + k * 3, none⟩ = some (.string l[k].key) ∧ W.cell? ⟨b2, off2 + k * 3 + 2, none⟩ = some (.string l[k].now)) (first | exact ⟨d0, d2⟩ | exact ⟨(HD.out _ (hBX.alloc hXs _).drew).1, (HD.out _ (hBX.alloc hXs _).drew).2.2⟩ | exact ⟨(HD.out _ hYY).1, (HD.out _ hYY).2.2⟩) ((refine step_append_R (by rfl) _ _ (by rfl) w.heap.size _ out (by rfl) ((HOX.out.alloc _).drewn) (some ⟨X.heap.size, 0, none⟩) [⟨l[k].key, l[k].now⟩] 1 (by rfl) (newRowD X l[k].key l[k].now _) (by simp; omega) (by simp; omega) ?_; intro a' n' c' y1 hn' hO1 hg1; have hYY : Below w.heap.size w y1 := (hBX.alloc hXs _).drew.grown hg1 (by simp; omega) (fun j hj => (HOX.out.lt j hj).1)))
                        have hn2 : n' = out.length + 1 := by rw [hn']; simp
                        rw [hn2] at hO1
                        have HO3 := hide hO1
                        clear hO1 hg1 hn' hn2
                        go_wp2
                        go_roundw
                        case rel => exact ⟨i, k + 1, out ++ [⟨l[k].key, l[k].now⟩], by omega, by omega, rfl, by go_num, HO3.out, HM3.out, by simp; omega, hYY⟩
                        case measure => simp [intOf]; omega
                  · have HM2 := hide (sflw_lt hil hkl ha HM.out)
                    unfold keyLt at ha
                    go_wp2
                    go_region
                    go_wp2_with (at_builtin; refine wpList_append_R rfl _ _ rfl w.heap.size _ out rfl ((HO.out.alloc _).drewn) (some ⟨wr.heap.size, 0, none⟩) [was[i]] 1 rfl (newRowD wr was[i].key was[i].value _) (by simp; omega) (by simp; omega) ?_)
                    intro v1 y1 hO1 hg1 _
                    have hB3 : Below w.heap.size w y1 := (hb.alloc hbs _).drew.grown hg1 (by simp; omega) (fun j hj => (HO.out.lt j hj).1)
                    have HO3 := hide hO1
                    clear hO1 hg1
                    go_wp2
                    go_roundw
                    case rel => exact ⟨i + 1, k, out ++ [was[i]], by omega, by omega, by go_num, rfl, by simpa using HO3.out, HM2.out, by simp; omega, hB3⟩
                    case measure => simp [intOf]; omega
                · have hi1 : ¬ (i : Int) < (was.length : Int) := by omega
                  have HM2 := hide (sflw_ne hkl (fun h => absurd h hil) HM.out)
                  go_wp2_with fail
                  go_quiet (fail)
                  obtain ⟨n1, rfl⟩ : ∃ n1, n1 = nq := ⟨_, rfl⟩
                  go_wp2_with fail
                  go_quiet (fail)
                  obtain ⟨X, hX⟩ : ∃ X, (wr.drewN n1).drewN nq = X := ⟨_, rfl⟩
                  have hBX : Below w.heap.size w X := by rw [← hX]; exact below_drewN (below_drewN hb _) _
                  have HOX : Hid (X.ownsRow w.heap.size 43 2 u5 out.length (flatG PropV.cells out)) := ⟨by rw [← hX]; exact HO.out⟩
                  have hXs := hBX.size
                  rw [hX]
                  obtain ⟨d0, d1, d2⟩ := HC2.out.block (w' := X) (hBX.block b2 hlt2)
                  have HD := hide (fun (W : World) (hW : Below w.heap.size w W) => HC2.out.block (w' := W) (hW.block b2 hlt2))
                  clear hX HC2
                  obtain ⟨ch, hch⟩ : ∃ ch, l[k].has = ch := ⟨_, rfl⟩
                  rw [hch] at d1
                  cases ch
                  · have HM3 : Hid (out ++ flw (l.drop (k + 1)) (was.drop i) = flw l was) := ⟨by have := HM2.out; rwa [rowC_no hch, List.append_nil] at this⟩
                    clear hch
                    go_wp2
                    go_roundw
                    case rel => exact ⟨i, k + 1, out, by omega, by omega, rfl, by go_num, HOX.out, HM3.out, by omega, hBX⟩
                    case measure => simp [intOf]; omega
                  · have HM3 : Hid ((out ++ [⟨l[k].key, l[k].now⟩]) ++ flw (l.drop (k + 1)) (was.drop i) = flw l was) := ⟨by have := HM2.out; rwa [rowC_yes hch] at this⟩
                    clear hch
                    go_wp2
                    go_region_held3 (fun W => W.cell? ⟨b2, off2 + k * 3, none⟩ = some (.string l[k].key) ∧ W.cell? ⟨b2, off2 + k * 3 + 2, none⟩ = some (.string l[k].now)) (first | exact ⟨d0, d2⟩ | exact ⟨(HD.out _ (hBX.alloc hXs _).drew).1, (HD.out _ (hBX.alloc hXs _).drew).2.2⟩ | exact ⟨(HD.out _ hYY).1, (HD.out _ hYY).2.2⟩) ((refine step_append_R (by rfl) _ _ (by rfl) w.heap.size _ out (by rfl) ((HOX.out.alloc _).drewn) (some ⟨X.heap.size, 0, none⟩) [⟨l[k].key, l[k].now⟩] 1 (by rfl) (newRowD X l[k].key l[k].now _) (by simp; omega) (by simp; omega) ?_; intro a' n' c' y1 hn' hO1 hg1; have hYY : Below w.heap.size w y1 := (hBX.alloc hXs _).drew.grown hg1 (by simp; omega) (fun j hj => (HOX.out.lt j hj).1)))
                    have hn2 : n' = out.length + 1 := by rw [hn']; simp
                    rw [hn2] at hO1
                    have HO3 := hide hO1
                    clear hO1 hg1 hn' hn2
                    go_wp2
                    go_roundw
                    case rel => exact ⟨i, k + 1, out ++ [⟨l[k].key, l[k].now⟩], by omega, by omega, rfl, by go_num, HO3.out, HM3.out, by simp; omega, hYY⟩
                    case measure => simp [intOf]; omega
              · have hk1 : ¬ (k : Int) < (l.length : Int) := by omega
                have hk2 : ((k : Int) == (l.length : Int)) = true := by simp; omega
                by_cases hil : i < was.length
                · have hi1 : (i : Int) < (was.length : Int) := by omega
                  obtain ⟨b1, off1, rfl, hlt1, ho1⟩ := HA.out i hil
                  obtain ⟨c0, c1⟩ := ho1.block (w' := wr) (hb.block b1 hlt1)
                  have HM2 := hide (sflw_last hil (by omega) HM.out)
                  clear ho1
                  go_wp2
                  go_region
                  go_wp2_with (at_builtin; refine wpList_append_R rfl _ _ rfl w.heap.size _ out rfl ((HO.out.alloc _).drewn) (some ⟨wr.heap.size, 0, none⟩) [was[i]] 1 rfl (newRowD wr was[i].key was[i].value _) (by simp; omega) (by simp; omega) ?_)
                  intro v1 y1 hO1 hg1 _
                  have hB3 : Below w.heap.size w y1 := (hb.alloc hbs _).drew.grown hg1 (by simp; omega) (fun j hj => (HO.out.lt j hj).1)
                  have HO3 := hide hO1
                  clear hO1 hg1
                  go_wp2
                  go_roundw
                  case rel => exact ⟨i + 1, k, out ++ [was[i]], by omega, by omega, by go_num, rfl, by simpa using HO3.out, HM2.out, by simp; omega, hB3⟩
                  case measure => simp [intOf]; omega
                · have hi1 : ¬ (i : Int) < (was.length : Int) := by omega
                  have hM := HM.out
                  have e1 : l.drop k = [] := List.drop_of_length_le (by omega)
                  have e2 : was.drop i = [] := List.drop_of_length_le (by omega)
                  rw [e1, e2, flw, List.append_nil] at hM
                  clear e1 e2
                  by_cases h150 : out.length ≤ 150
                  · have hd5 : decide ((150 : Int) < (out.length : Int)) = false := by simp; omega
                    have HF := hide ((follow_yes hl4 HR1.out HX.out (by rw [← hM]; exact h150)).trans hM.symm)
                    obtain ⟨a3, c3, rfl, _, _⟩ := owns_atR HO.out
                    clear hM
                    go_wp2
                    go_ret
                    exact ⟨_, rfl, by rw [HF.out]; exact HO.out, hb⟩
                  · have hd5 : decide ((150 : Int) < (out.length : Int)) = true := by simp; omega
                    have HF := hide (follow_no (was := was) (l := l) (fun h => by rw [← hM] at h; exact h150 h.2.2.2))
                    obtain ⟨a3, c3, rfl, _, _⟩ := owns_atR HO.out
                    clear hM
                    go_wp2
                    go_ret
                    exact ⟨_, rfl, by rw [HF.out]; exact owns_base2 (empty_rowR wr) hbs, hb.alloc hbs _⟩
    · have HF := hide (follow_no (was := was) (l := l) (fun h => hl4 h.1))
      have hd2 : decide ((400 : Int) < (l.length : Int)) = true := by simp; omega
      go_enter Try.func18, Try.ntmps18
      go_wp2
      go_ret
      exact ⟨_, rfl, by rw [HF.out]; exact HO0.out, HB0.out⟩
  · have HF := hide (follow_no (was := was) (l := l) (fun h => by have := ((rowsRight_iff was).1 h.2.1).1; omega))
    have hd1 : decide ((400 : Int) < (was.length : Int)) = true := by simp; omega
    go_enter Try.func18, Try.ntmps18
    go_wp2
    go_ret
    exact ⟨_, rfl, by rw [HF.out]; exact HO0.out, HB0.out⟩
end Go.Proofs.Ytmidembbanlleag.OpR
