/- Proves what spec.Changes answers. -/
import Derived.Test.YtmidembbanlleagChgM
import Derived.Test.YtmidembbanlleagChO
import Derived.Test.YtmidembbanlleagRowO
import Derived.Laws.StructEq
import Derived.Deep.QuietTactic
import Derived.BigQuiet
namespace Go.Proofs.Ytmidembbanlleag.OpR
open Go.ChangeShapes Go.WideShapes Go.ChangeAt Go.RowKit
set_option linter.unusedVariables false

theorem below_drewC {B : Nat} {a b : World} (h : Below B a b) (n : Nat) : Below B a (b.drewN n) := ⟨h.os, h.tape, h.output, h.size, h.block⟩
theorem newChD (x : World) (k : ByteArray) (b : Bool) (v : ByteArray) (T : TypeId) : ChsAt (x.alloc (.cells #[.string k, .bool b, .string v] T)).drew (some ⟨x.heap.size, 0, none⟩) [⟨k, b, v⟩] := newCh x k b v T
theorem newChN (x : World) (k : ByteArray) (b : Bool) (v : ByteArray) (T : TypeId) (n : Nat) : ChsAt ((x.alloc (.cells #[.string k, .bool b, .string v] T)).drewN n) (some ⟨x.heap.size, 0, none⟩) [⟨k, b, v⟩] := newCh x k b v T
theorem _root_.Go.World.ownsRow.drewNn {w : World} {base : Nat} {T : TypeId} {size : Nat} {v : Value} {n : Nat} {xs : List Value} {q : Nat} (h : w.ownsRow base T size v n xs) : (w.drewN q).ownsRow base T size v n xs := h
theorem eqR_no {a b : PropV} (h : a.key = b.key) (hv : ¬ a.value = b.value) : eqR a b = false := by simp [eqR, hv]
theorem eqR_yes {a b : PropV} (h : a.key = b.key) (hv : a.value = b.value) : eqR a b = true := by simp [eqR, h, hv]
set_option maxRecDepth 100000 in
set_option maxHeartbeats 400000 in
theorem neq_rows (a b : PropV) (W : World) : (binOp .neq 43 a.agg b.agg).run Try.prog W = .ok (.bool (!eqR a b)) W := by
  unfold PropV.agg
  by_cases h1 : a.key = b.key
  · by_cases h2 : a.value = b.value
    · rw [eqR_yes h1 h2, h1, h2]
      simp [go_sem]
    · rw [eqR_no h1 h2, h1]
      have h3 : ¬ a.value.toList = b.value.toList := fun e => h2 (toListR_inj e)
      simp [go_sem, h3]
  · have e : eqR a b = false := by simp [eqR, h1]
    have h3 : ¬ a.key.toList = b.key.toList := fun e => h1 (toListR_inj e)
    rw [e]
    simp [go_sem, h3]
set_option maxRecDepth 100000 in
set_option maxHeartbeats 4000000 in
theorem sChanges_any (was now : List PropV) (ao bo : Option Addr) (ca cb : Nat) (w : World) (hwl : was.length ≤ maxLen) (hnl : now.length ≤ maxLen) (hA : PropsAt w ao was) (hN : PropsAt w bo now) :
    Calls Try.prog 11 #[.slice ao was.length ca, .slice bo now.length cb] w fun e w' => ∃ v, e = .returned v ∧ w'.ownsRow w.heap.size 48 3 v (changesRes was now).length (flatG ChV.cells (changesRes was now)) ∧ Below w.heap.size w w' := by
  have HRR := hide (fun W (hW : Below w.heap.size w W) => sRowsRight_any was ao ca W hwl (hA.stays hW))
  have HRN := hide (fun W (hW : Below w.heap.size w W) => sRowsRight_any now bo cb W hnl (hN.stays hW))
  have HA := hide hA
  have HN := hide hN
  have HB0 := hide ((Below.refl w.heap.size w).alloc (Nat.le_refl _) (.cells #[] 48))
  have HO0 := hide (empty_rowC w)
  unfold maxLen at hwl hnl
  clear hA hN
  have m1 : Hid True := ⟨trivial⟩
  cases hr : rowsRight was
  · have HF := hide (changes_no (was := was) (now := now) (fun h => by rw [hr] at h; exact absurd h.1 (by decide)))
    have HR1 := hide hr
    clear hr
    go_enter Try.func11, Try.ntmps11
    go_wp2_with (first | (go_at_call 7; have h1 := HRR.out _ HB0.out; rw [HR1.out] at h1; refine h1.mono ?_; rintro e w1 ⟨rfl, hb1⟩; clear h1))
    go_ret
    exact ⟨_, rfl, by rw [HF.out]; exact owns_stays2 HO0.out hb1, HB0.out.trans (hb1.mono HB0.out.size)⟩
  · cases hrn : rowsRight now
    · have HF := hide (changes_no (was := was) (now := now) (fun h => by rw [hrn] at h; exact absurd h.2 (by decide)))
      have HR1 := hide hr
      have HR2 := hide hrn
      clear hr hrn
      go_enter Try.func11, Try.ntmps11
      go_wp2_with (first | (go_at_call 7; clear m1; have h1 := HRR.out _ HB0.out; rw [HR1.out] at h1; refine h1.mono ?_; rintro e w1 ⟨rfl, hb1⟩; have HB1 := hide (HB0.out.trans (hb1.mono HB0.out.size)); have HO1 := hide (owns_stays2 HO0.out hb1); clear h1 hb1) | (go_at_call 7; have h2 := HRN.out _ HB1.out; rw [HR2.out] at h2; refine h2.mono ?_; rintro e w2 ⟨rfl, hb2⟩; have HB2 := hide (HB1.out.trans (hb2.mono HB1.out.size)); have HO2 := hide (owns_stays2 HO1.out hb2); clear h2 hb2))
      go_ret
      exact ⟨_, rfl, by rw [HF.out]; exact HO2.out, HB2.out⟩
    · have HF := hide (changes_yes hr hrn)
      have hw150 := ((rowsRight_iff was).1 hr).1
      have hn150 := ((rowsRight_iff now).1 hrn).1
      have HRi : Hid (RisesK was) := ⟨((rowsRight_iff was).1 hr).2⟩
      have HRj : Hid (RisesK now) := ⟨((rowsRight_iff now).1 hrn).2⟩
      have HR1 := hide hr
      have HR2 := hide hrn
      clear hr hrn
      go_enter Try.func11, Try.ntmps11
      go_wp2_with (first | (go_at_call 7; clear m1; have h1 := HRR.out _ HB0.out; rw [HR1.out] at h1; refine h1.mono ?_; rintro e w1 ⟨rfl, hb1⟩; have HB1 := hide (HB0.out.trans (hb1.mono HB0.out.size)); have HO1 := hide (owns_stays2 HO0.out hb1); clear h1 hb1) | (go_at_call 7; have h2 := HRN.out _ HB1.out; rw [HR2.out] at h2; refine h2.mono ?_; rintro e w2 ⟨rfl, hb2⟩; have HB2 := hide (HB1.out.trans (hb2.mono HB1.out.size)); have HO2 := hide (owns_stays2 HO1.out hb2); clear h2 hb2))
      go_loopw [5, 6, 7] (fun vo vi vk wr => ∃ (i k : Nat) (out : List ChV), i ≤ was.length ∧ k ≤ now.length ∧ vi = .int .i64 i ∧ vk = .int .i64 k ∧ wr.ownsRow w.heap.size 48 3 vo out.length (flatG ChV.cells out) ∧ out ++ chgs (was.drop i) (now.drop k) = chgs was now ∧ out.length ≤ i + k ∧ Below w.heap.size w wr) (fun _ vi vk _ => (was.length - (intOf vi).toNat) + (now.length - (intOf vk).toNat))
      case atStart => exact ⟨0, 0, [], by omega, by omega, rfl, rfl, HO2.out, rfl, by simp, HB2.out⟩
      case round =>
        obtain ⟨i, k, out, hi, hk, rfl, rfl, hO, hM, hol, hb⟩ := hrel
        have HO := hide hO
        have HM := hide hM
        have hbs := hb.size
        have hi0 : (0 : Int) ≤ (i : Int) := by omega
        have hk0 : (0 : Int) ≤ (k : Int) := by omega
        clear hO hM
        by_cases hkl : k < now.length
        · have hk1 : (k : Int) < (now.length : Int) := by omega
          have hk2 : ((k : Int) == (now.length : Int)) = false := by simp; omega
          obtain ⟨b2, off2, rfl, hlt2, ho2⟩ := HN.out k hkl
          obtain ⟨d0, d1⟩ := ho2.block (w' := wr) (hb.block b2 hlt2)
          have HC2 := hide ho2
          clear ho2
          by_cases hil : i < was.length
          · have hi1 : (i : Int) < (was.length : Int) := by omega
            have hi2 : ((i : Int) == (was.length : Int)) = false := by simp; omega
            obtain ⟨b1, off1, rfl, hlt1, ho1⟩ := HA.out i hil
            obtain ⟨c0, c1⟩ := ho1.block (w' := wr) (hb.block b1 hlt1)
            have HC1 := hide ho1
            clear ho1
            cases ha : keyLt was[i].key now[k].key
            · cases hb2 : keyLt now[k].key was[i].key
              · have he : was[i].key = now[k].key := kr_tri ha hb2
                have HM2 := hide (schg_both HRi.out HRj.out hil hkl he HM.out)
                have hneq := neq_rows was[i] now[k]
                unfold PropV.agg at hneq
                have HE := hide he
                unfold keyLt at ha hb2
                clear he
                go_wp2_with fail
                go_quiet (fail)
                obtain ⟨n1, rfl⟩ : ∃ n1, n1 = nq := ⟨_, rfl⟩
                go_wp2_with fail
                go_quiet (fail)
                obtain ⟨n2, rfl⟩ : ∃ n2, n2 = nq := ⟨_, rfl⟩
                cases hq : eqR was[i] now[k]
                · have HM3 : Hid ((out ++ [cameC now[k]]) ++ chgs (was.drop (i + 1)) (now.drop (k + 1)) = chgs was now) := ⟨by have := HM2.out; unfold bothC at this; rwa [hq] at this⟩
                  rw [hq] at hneq
                  clear hq
                  go_wp2_with fail
                  go_quiet (fail)
                  clear hneq
                  obtain ⟨X, hX⟩ : ∃ X, ((wr.drewN n1).drewN n2).drewN nq = X := ⟨_, rfl⟩
                  have hBX : Below w.heap.size w X := by rw [← hX]; exact below_drewC (below_drewC (below_drewC hb _) _) _
                  have HOX : Hid (X.ownsRow w.heap.size 48 3 u5 out.length (flatG ChV.cells out)) := ⟨by rw [← hX]; exact HO.out⟩
                  have hXs := hBX.size
                  rw [hX]
                  obtain ⟨d0, d1⟩ := HC2.out.block (w' := X) (hBX.block b2 hlt2)
                  have HD := hide (fun (W : World) (hW : Below w.heap.size w W) => HC2.out.block (w' := W) (hW.block b2 hlt2))
                  clear hX HC2
                  go_wp2_with fail
                  go_region_held3 (fun W => W.cell? ⟨b2, off2 + k * 2, none⟩ = some (.string now[k].key) ∧ W.cell? ⟨b2, off2 + k * 2 + 1, none⟩ = some (.string now[k].value)) (first | exact ⟨d0, d1⟩ | exact HD.out _ (hBX.alloc hXs _).drew | exact HD.out _ hYY) ((refine step_append_C (by rfl) _ _ (by rfl) w.heap.size _ out (by rfl) ((HOX.out.alloc _).drewn) (some ⟨X.heap.size, 0, none⟩) [cameC now[k]] 1 (by rfl) (newChD X now[k].key true now[k].value _) (by simp; omega) (by simp; omega) ?_; intro a' n' c' y1 hn' hO1 hg1; have hYY : Below w.heap.size w y1 := (hBX.alloc hXs _).drew.grown hg1 (by simp; omega) (fun j hj => (HOX.out.lt j hj).1)))
                  have hn2 : n' = out.length + 1 := by rw [hn']; simp
                  rw [hn2] at hO1
                  have HO3 := hide hO1
                  clear hO1 hg1 hn' hn2
                  go_wp2
                  go_roundw
                  case rel => exact ⟨i + 1, k + 1, out ++ [cameC now[k]], by omega, by omega, by go_num, by go_num, HO3.out, HM3.out, by simp; omega, hYY⟩
                  case measure => simp [intOf]; omega
                · have HM3 : Hid (out ++ chgs (was.drop (i + 1)) (now.drop (k + 1)) = chgs was now) := ⟨by have := HM2.out; unfold bothC at this; rw [hq, if_pos rfl, List.append_nil] at this; exact this⟩
                  rw [hq] at hneq
                  clear hq
                  go_wp2_with fail
                  go_quiet (fail)
                  clear hneq
                  go_wp2
                  go_roundw
                  case rel => exact ⟨i + 1, k + 1, out, by omega, by omega, by go_num, by go_num, HO.out, HM3.out, by omega, by first | exact below_drewC hb _ | exact below_drewC (below_drewC (below_drewC hb _) _) _⟩
                  case measure => simp [intOf]; omega
              · have HM2 := hide (schg_came HRi.out HRj.out hkl (fun _ => hb2) HM.out)
                unfold keyLt at ha hb2
                go_wp2_with fail
                go_quiet (fail)
                obtain ⟨n1, rfl⟩ : ∃ n1, n1 = nq := ⟨_, rfl⟩
                go_wp2_with fail
                go_quiet (fail)
                obtain ⟨n2, rfl⟩ : ∃ n2, n2 = nq := ⟨_, rfl⟩
                obtain ⟨X, hX⟩ : ∃ X, (wr.drewN n1).drewN n2 = X := ⟨_, rfl⟩
                have hBX : Below w.heap.size w X := by rw [← hX]; exact below_drewC (below_drewC hb _) _
                have HOX : Hid (X.ownsRow w.heap.size 48 3 u5 out.length (flatG ChV.cells out)) := ⟨by rw [← hX]; exact HO.out⟩
                have hXs := hBX.size
                rw [hX]
                obtain ⟨d0, d1⟩ := HC2.out.block (w' := X) (hBX.block b2 hlt2)
                have HD := hide (fun (W : World) (hW : Below w.heap.size w W) => HC2.out.block (w' := W) (hW.block b2 hlt2))
                clear hX HC2
                have HM3 := HM2
                go_wp2_with fail
                go_region_held3 (fun W => W.cell? ⟨b2, off2 + k * 2, none⟩ = some (.string now[k].key) ∧ W.cell? ⟨b2, off2 + k * 2 + 1, none⟩ = some (.string now[k].value)) (first | exact ⟨d0, d1⟩ | exact HD.out _ (hBX.alloc hXs _).drew | exact HD.out _ hYY) ((refine step_append_C (by rfl) _ _ (by rfl) w.heap.size _ out (by rfl) ((HOX.out.alloc _).drewn) (some ⟨X.heap.size, 0, none⟩) [cameC now[k]] 1 (by rfl) (newChD X now[k].key true now[k].value _) (by simp; omega) (by simp; omega) ?_; intro a' n' c' y1 hn' hO1 hg1; have hYY : Below w.heap.size w y1 := (hBX.alloc hXs _).drew.grown hg1 (by simp; omega) (fun j hj => (HOX.out.lt j hj).1)))
                have hn2 : n' = out.length + 1 := by rw [hn']; simp
                rw [hn2] at hO1
                have HO3 := hide hO1
                clear hO1 hg1 hn' hn2
                go_wp2
                go_roundw
                case rel => exact ⟨i, k + 1, out ++ [cameC now[k]], by omega, by omega, rfl, by go_num, HO3.out, HM3.out, by simp; omega, hYY⟩
                case measure => simp [intOf]; omega
            · have HM2 := hide (schg_went HRi.out HRj.out hil (fun _ => ha) HM.out)
              unfold keyLt at ha
              clear HC1 HC2
              go_wp2_with fail
              go_quiet (fail)
              go_wp2_with (at_builtin; refine wpList_append_C rfl _ _ rfl w.heap.size _ out rfl ((HO.out.alloc _).drewNn) (some ⟨wr.heap.size, 0, none⟩) [wentC was[i]] 1 rfl (newChN wr was[i].key false ⟨#[]⟩ _ _) (by simp; omega) (by simp; omega) ?_)
              intro v1 y1 hO1 hg1 _
              have hB3 : Below w.heap.size w y1 := (below_drewC (hb.alloc hbs _) _).grown hg1 (by simp; omega) (fun j hj => (HO.out.lt j hj).1)
              have HO3 := hide hO1
              clear hO1 hg1
              go_wp2
              go_roundw
              case rel => exact ⟨i + 1, k, out ++ [wentC was[i]], by omega, by omega, by go_num, rfl, by simpa using HO3.out, HM2.out, by simp; omega, hB3⟩
              case measure => simp [intOf]; omega
          · have hi1 : ¬ (i : Int) < (was.length : Int) := by omega
            have hi3 : decide ((i : Int) < (was.length : Int)) = false := by simp; omega
            have hi2 : ((i : Int) == (was.length : Int)) = true := by simp; omega
            have HM2 := hide (schg_came HRi.out HRj.out hkl (fun h => absurd h hil) HM.out)
            go_wp2_with fail
            go_quiet (fail)
            obtain ⟨n1, rfl⟩ : ∃ n1, n1 = nq := ⟨_, rfl⟩
            go_wp2_with fail
            go_quiet (fail)
            obtain ⟨n2, rfl⟩ : ∃ n2, n2 = nq := ⟨_, rfl⟩
            obtain ⟨X, hX⟩ : ∃ X, (wr.drewN n1).drewN n2 = X := ⟨_, rfl⟩
            have hBX : Below w.heap.size w X := by rw [← hX]; exact below_drewC (below_drewC hb _) _
            have HOX : Hid (X.ownsRow w.heap.size 48 3 u5 out.length (flatG ChV.cells out)) := ⟨by rw [← hX]; exact HO.out⟩
            have hXs := hBX.size
            rw [hX]
            obtain ⟨d0, d1⟩ := HC2.out.block (w' := X) (hBX.block b2 hlt2)
            have HD := hide (fun (W : World) (hW : Below w.heap.size w W) => HC2.out.block (w' := W) (hW.block b2 hlt2))
            clear hX HC2
            have HM3 := HM2
            go_wp2_with fail
            go_region_held3 (fun W => W.cell? ⟨b2, off2 + k * 2, none⟩ = some (.string now[k].key) ∧ W.cell? ⟨b2, off2 + k * 2 + 1, none⟩ = some (.string now[k].value)) (first | exact ⟨d0, d1⟩ | exact HD.out _ (hBX.alloc hXs _).drew | exact HD.out _ hYY) ((refine step_append_C (by rfl) _ _ (by rfl) w.heap.size _ out (by rfl) ((HOX.out.alloc _).drewn) (some ⟨X.heap.size, 0, none⟩) [cameC now[k]] 1 (by rfl) (newChD X now[k].key true now[k].value _) (by simp; omega) (by simp; omega) ?_; intro a' n' c' y1 hn' hO1 hg1; have hYY : Below w.heap.size w y1 := (hBX.alloc hXs _).drew.grown hg1 (by simp; omega) (fun j hj => (HOX.out.lt j hj).1)))
            have hn2 : n' = out.length + 1 := by rw [hn']; simp
            rw [hn2] at hO1
            have HO3 := hide hO1
            clear hO1 hg1 hn' hn2
            go_wp2
            go_roundw
            case rel => exact ⟨i, k + 1, out ++ [cameC now[k]], by omega, by omega, rfl, by go_num, HO3.out, HM3.out, by simp; omega, hYY⟩
            case measure => simp [intOf]; omega
        · have hk1 : ¬ (k : Int) < (now.length : Int) := by omega
          have hk2 : ((k : Int) == (now.length : Int)) = true := by simp; omega
          by_cases hil : i < was.length
          · have hi1 : (i : Int) < (was.length : Int) := by omega
            obtain ⟨b1, off1, rfl, hlt1, ho1⟩ := HA.out i hil
            obtain ⟨c0, c1⟩ := ho1.block (w' := wr) (hb.block b1 hlt1)
            have HM2 := hide (schg_went HRi.out HRj.out hil (fun h => absurd h hkl) HM.out)
            clear ho1
            go_wp2_with fail
            go_quiet (fail)
            go_wp2_with (at_builtin; refine wpList_append_C rfl _ _ rfl w.heap.size _ out rfl ((HO.out.alloc _).drewNn) (some ⟨wr.heap.size, 0, none⟩) [wentC was[i]] 1 rfl (newChN wr was[i].key false ⟨#[]⟩ _ _) (by simp; omega) (by simp; omega) ?_)
            intro v1 y1 hO1 hg1 _
            have hB3 : Below w.heap.size w y1 := (below_drewC (hb.alloc hbs _) _).grown hg1 (by simp; omega) (fun j hj => (HO.out.lt j hj).1)
            have HO3 := hide hO1
            clear hO1 hg1
            go_wp2
            go_roundw
            case rel => exact ⟨i + 1, k, out ++ [wentC was[i]], by omega, by omega, by go_num, rfl, by simpa using HO3.out, HM2.out, by simp; omega, hB3⟩
            case measure => simp [intOf]; omega
          · have hi1 : ¬ (i : Int) < (was.length : Int) := by omega
            have hM := HM.out
            have e1 : now.drop k = [] := List.drop_of_length_le (by omega)
            have e2 : was.drop i = [] := List.drop_of_length_le (by omega)
            rw [e1, e2, chgs_nil, List.append_nil] at hM
            have HE := hide hM
            clear e1 e2 hM
            go_wp2
            go_ret
            exact ⟨_, rfl, by rw [HF.out, ← HE.out]; exact HO.out, hb⟩
end Go.Proofs.Ytmidembbanlleag.OpR
