/- Proves what impl.Changes answers: the changes between rows, in memory of its own. -/
import Derived.Test.YtmidembbanlleagIChg
namespace Go.Proofs.Ytmidembbanlleag.OpR
open Go.ChangeShapes Go.WideShapes Go.ChangeAt Go.RowKit
set_option linter.unusedVariables false

theorem owns_lowC {w : World} {base base' : Nat} {T : TypeId} {c : Nat} {v : Value} {n : Nat} {xs : List Value} (h : w.ownsRow base T c v n xs) (hb : base' ≤ base) : w.ownsRow base' T c v n xs :=
  ⟨h.1, h.2.imp id fun ⟨g, cap, cur, e1, hg, r⟩ => ⟨g, cap, cur, e1, Nat.le_trans hb hg, r⟩⟩
theorem keysOf_sized {m : Nat} {was now : List PropV} (h1 : SizedP m was) (h2 : SizedP m now) : ∀ k ∈ keysOf was now, k.size ≤ m := fun k hk => by
  obtain ⟨r, hr, rfl⟩ := List.mem_map.1 (dd_mem hk)
  rcases List.mem_append.1 ((mrgR_perm was now).mem_iff.1 hr) with h | h
  · exact (h1 r h).1
  · exact (h2 r h).1
theorem rowAt_sized {m : Nat} {k : ByteArray} : ∀ {l : List PropV}, SizedP m l → (rowAt k l).value.size ≤ m
  | [], _ => Nat.zero_le _
  | r :: l, h => by
    simp only [rowAt]
    split
    · exact rowAt_sized (fun x hx => h x (by simp [hx]))
    · split
      · exact (h r (by simp)).2
      · exact Nat.zero_le _
theorem chK_same {was now : List PropV} {k : ByteArray} {t : Bool} {r1 r2 : PropV} (h1 : thereK k was = t) (h2 : thereK k now = t) (h3 : rowAt k was = r1) (h4 : rowAt k now = r2) (h : eqR r1 r2 = true) : chK was now k = [] := by
  unfold chK
  rw [h1, h2, h3, h4, h]
  simp
theorem chK_diff {was now : List PropV} {k : ByteArray} {t1 t2 : Bool} {r1 r2 : PropV} (h1 : thereK k was = t1) (h2 : thereK k now = t2) (h3 : rowAt k was = r1) (h4 : rowAt k now = r2) (h : (t1 == t2 && eqR r1 r2) = false) : chK was now k = [⟨k, t2, r2.value⟩] := by
  unfold chK
  rw [h1, h2, h3, h4, h]
  simp
theorem newCh2 (W : World) (k : ByteArray) (b : Bool) (v : ByteArray) (T : TypeId) : ∀ j u, (ChV.cells ⟨k, b, v⟩)[j]? = some u → (W.alloc (.cells #[.string k, .bool b, .string v] T)).cell? ((⟨W.heap.size, 0, none⟩ : Addr).add j) = some u := by
  intro j u hu
  rw [Addr.add_lit, Nat.zero_add, World.cell?_alloc_at _ _ _ _ rfl]
  simpa [ChV.cells] using hu
set_option maxRecDepth 100000 in
set_option maxHeartbeats 4000000 in
theorem iChanges_any (was now : List PropV) (ao bo : Option Addr) (ca cb : Nat) (w : World) (hwl : was.length ≤ maxLen) (hnl : now.length ≤ maxLen) (hca : was.length ≤ ca) (hcb : now.length ≤ cb) (hA : PropsAt w ao was) (hN : PropsAt w bo now) (hS : SizedP 1048576 was) (hSn : SizedP 1048576 now) :
    Calls Try.prog 12 #[.slice ao was.length ca, .slice bo now.length cb] w fun e w' => ∃ v, e = .returned v ∧ w'.ownsRow w.heap.size 48 3 v (changesRes was now).length (flatG ChV.cells (changesRes was now)) ∧ Below w.heap.size w w' := by
  have HRR := hide (iRowsRight_any was ao ca w hwl hA)
  have HRN := hide (fun W (hW : Below w.heap.size w W) => iRowsRight_any now bo cb W hnl (hN.stays hW))
  have HEK := hide (fun W (hW : Below w.heap.size w W) (h1 : was.length ≤ 150) (h2 : now.length ≤ 150) => eitherKeys_any was now ao bo ca cb W h1 h2 hca hcb (hA.stays hW) (hN.stays hW))
  have HRO := hide (fun W (hW : Below w.heap.size w W) (h1 : was.length ≤ 150) (hR : RisesK was) (key : ByteArray) => rowOf_any was ao ca key W h1 hR (hA.stays hW))
  have HRP := hide (fun W (hW : Below w.heap.size w W) (h1 : now.length ≤ 150) (hR : RisesK now) (key : ByteArray) => rowOf_any now bo cb key W h1 hR (hN.stays hW))
  have HNil : Hid (∀ W : World, W.ownsRow w.heap.size 48 3 (.slice none 0 0) ([] : List ChV).length (flatG ChV.cells [])) := ⟨fun W => World.ownsRow_nil _ _ _ _⟩
  have HSw := hide hS
  have HSn := hide hSn
  obtain ⟨i0, hi, hz0, hz1, hz2⟩ := info_parts infoChange
  unfold maxLen at hwl hnl
  clear hA hN hS hSn
  have m1 : Hid True := ⟨trivial⟩
  cases hr : rowsRight was
  · have HF := hide (changes_no (was := was) (now := now) (fun h => by rw [hr] at h; exact absurd h.1 (by decide)))
    have HR1 := hide hr
    clear hr
    go_enter Try.func12, Try.ntmps12
    go_wp2_with (first | (go_at_call 9; have h1 := HRR.out; rw [HR1.out] at h1; refine h1.mono ?_; rintro e w1 ⟨rfl, hb1⟩; clear h1))
    go_ret
    exact ⟨_, rfl, by rw [HF.out]; exact HNil.out _, hb1⟩
  · cases hrn : rowsRight now
    · have HF := hide (changes_no (was := was) (now := now) (fun h => by rw [hrn] at h; exact absurd h.2 (by decide)))
      have HR1 := hide hr
      have HR2 := hide hrn
      clear hr hrn
      go_enter Try.func12, Try.ntmps12
      go_wp2_with (first | (go_at_call 9; clear m1; have h1 := HRR.out; rw [HR1.out] at h1; refine h1.mono ?_; rintro e w1 ⟨rfl, hb1⟩; clear h1) | (go_at_call 9; have h2 := HRN.out _ hb1; rw [HR2.out] at h2; refine h2.mono ?_; rintro e w2 ⟨rfl, hb2⟩; have hB2 := hb1.trans (hb2.mono hb1.size); clear h2))
      go_ret
      exact ⟨_, rfl, by rw [HF.out]; exact HNil.out _, hB2⟩
    · have HF := hide (changes_yes hr hrn)
      have hw150 := ((rowsRight_iff was).1 hr).1
      have hn150 := ((rowsRight_iff now).1 hrn).1
      have HRi : Hid (RisesK was) := ⟨((rowsRight_iff was).1 hr).2⟩
      have HRj : Hid (RisesK now) := ⟨((rowsRight_iff now).1 hrn).2⟩
      have HR1 := hide hr
      have HR2 := hide hrn
      have hKl := keysOf_len was now
      have HKs := hide (keysOf_sized HSw.out HSn.out)
      obtain ⟨K, hK⟩ : ∃ K, keysOf was now = K := ⟨_, rfl⟩
      rw [hK] at hKl HKs
      have HK := hide hK
      clear hr hrn hK
      go_enter Try.func12, Try.ntmps12
      go_wp2_with (first | (go_at_call 9; clear m1; have h1 := HRR.out; rw [HR1.out] at h1; refine h1.mono ?_; rintro e w1 ⟨rfl, hb1⟩; clear h1) | (go_at_call 9; have h2 := HRN.out _ hb1; rw [HR2.out] at h2; refine h2.mono ?_; rintro e w2 ⟨rfl, hb2⟩; have hB2 := hb1.trans (hb2.mono hb1.size); clear h2 hb2) | (go_at_call 27; have h3 := HEK.out _ hB2 hw150 hn150; rw [HK.out] at h3; refine h3.mono ?_; rintro e w3 ⟨v3, rfl, hO3, hb3⟩; obtain ⟨a3, c3, rfl, hT3⟩ := hO3.slice; have HT3 := hide hT3; have HB3 := hide (hB2.trans (hb3.mono hB2.size)); clear h3 hO3 hb3 hT3))
      have HRO2 := hide (fun W (hW : Below w3.heap.size w3 W) (key : ByteArray) => HRO.out W (HB3.out.trans (hW.mono HB3.out.size)) hw150 HRi.out key)
      have HRP2 := hide (fun W (hW : Below w3.heap.size w3 W) (key : ByteArray) => HRP.out W (HB3.out.trans (hW.mono HB3.out.size)) hn150 HRj.out key)
      clear HRR HRN HEK HRO HRP hb1 hB2
      go_loopw [5, 24] (fun vo i wr => ∃ k : Nat, k ≤ K.length ∧ i = .int .i64 k ∧ wr.ownsRow w3.heap.size 48 3 vo ((K.take k).flatMap (chK was now)).length (flatG ChV.cells ((K.take k).flatMap (chK was now))) ∧ Below w3.heap.size w3 wr) (fun _ i _ => K.length - (intOf i).toNat)
      case atStart => exact ⟨0, by omega, rfl, World.ownsRow_nil _ _ _ _, Below.refl _ _⟩
      case round =>
        obtain ⟨k, hk, rfl, hO, hb⟩ := hrel
        by_cases h : k < K.length
        · obtain ⟨g3, rfl, hlt3, hc3⟩ := HT3.out k h
          have c0 : wr.cell? ⟨g3, k, none⟩ = some (.string K[k]) := by simpa only [World.cell?, hb.block g3 hlt3] using hc3
          have hsz := HKs.out _ (List.getElem_mem h)
          have HT : Hid (K.take (k + 1) = K.take k ++ [K[k]]) := ⟨(List.take_append_getElem h).symm⟩
          obtain ⟨key, hkey⟩ : ∃ key, K[k] = key := ⟨_, rfl⟩
          rw [hkey] at c0 hsz HT
          obtain ⟨out, hout⟩ : ∃ out, (K.take k).flatMap (chK was now) = out := ⟨_, rfl⟩
          rw [hout] at hO
          have hol : out.length ≤ k := by rw [← hout]; have := flatK_len was now (K.take k); rw [List.length_take] at this; omega
          have HOut := hide hout
          have HO := hide hO
          have hi0 : (0 : Int) ≤ (k : Int) := by omega
          have hi1 : (k : Int) < (K.length : Int) := by omega
          have hbs := hb.size
          obtain ⟨t1, ht1⟩ : ∃ t, thereK key was = t := ⟨_, rfl⟩
          obtain ⟨t2, ht2⟩ : ∃ t, thereK key now = t := ⟨_, rfl⟩
          obtain ⟨r1, hr1⟩ : ∃ r, rowAt key was = r := ⟨_, rfl⟩
          obtain ⟨r2, hr2⟩ : ∃ r, rowAt key now = r := ⟨_, rfl⟩
          have hsv : r2.value.size ≤ 1048576 := by rw [← hr2]; exact rowAt_sized HSn.out
          have hC0 := fun W => NumR.clone_any key W (by omega)
          have hC1 := fun W => NumR.clone_any r2.value W (by omega)
          have HC0 := hide hC0
          have HC1 := hide hC1
          have hro := HRO2.out wr hb key
          rw [ht1, hr1] at hro
          have hrp := fun W (hW : Below w3.heap.size w3 W) => HRP2.out W hW key
          rw [ht2, hr2] at hrp
          unfold PropV.agg at hro hrp
          have Hro := hide hro
          have Hrp := hide hrp
          have hneq := neq_rows r1 r2
          unfold PropV.agg at hneq
          have HB := hide hb
          have Ht1 := hide ht1
          have Ht2 := hide ht2
          have Hr1 := hide hr1
          have Hr2 := hide hr2
          have s1 : Hid True := ⟨trivial⟩
          have s2 : Hid True := ⟨trivial⟩
          clear hkey hout hO hb hc3 ht1 ht2 hr1 hr2 hro hrp hC0 hC1 hsz hsv
          cases t1
          · cases t2
            · cases hq : eqR r1 r2
              · have HE := hide (chK_diff Ht1.out Ht2.out Hr1.out Hr2.out (by rw [hq]; rfl))
                rw [hq] at hneq
                clear hq
                go_wp2_with (first | (go_at_call 28; clear s1; refine Hro.out.mono ?_; rintro e x1 ⟨rfl, hx1⟩; have HB1 := hide (HB.out.trans (hx1.mono HB.out.size)); have HO1 := hide ((owns_stays2 HO.out hx1).alloc (.cells #[.string r1.key, .string r1.value] 43)); have HBX1 := hide (HB1.out.alloc HB1.out.size (.cells #[.string r1.key, .string r1.value] 43)); have HL1 : Hid ((x1.alloc (.cells #[.string r1.key, .string r1.value] 43)).heap[x1.heap.size]? = some (.cells #[.string r1.key, .string r1.value] 43 (0, 0))) := ⟨heap_alloc_new x1 _⟩; have hz1s := hx1.size; clear hx1 c0) | (go_at_call 28; refine (Hrp.out _ HBX1.out).mono ?_; rintro e x2 ⟨rfl, hx2⟩; have HB2 := hide (HBX1.out.trans (hx2.mono HBX1.out.size)); have HO2 := hide ((owns_stays2 HO1.out hx2).alloc (.cells #[.string r2.key, .string r2.value] 43)); have HBX2 := hide (HB2.out.alloc HB2.out.size (.cells #[.string r2.key, .string r2.value] 43)); have HL2 := hide ((hx2.block _ (Array.getElem?_eq_some_iff.1 HL1.out).1).trans HL1.out); have hlx : x1.heap.size < x2.heap.size := (Array.getElem?_eq_some_iff.1 HL2.out).1; obtain ⟨p0, p1⟩ := cellsRw2 HL2.out; have HLX := hide ((Below.heap_alloc x2 (.cells #[.string r2.key, .string r2.value] 43) _ hlx).trans HL2.out); obtain ⟨y0, y1⟩ := cellsRw2 HLX.out; have HLR : Hid ((x2.alloc (.cells #[.string r2.key, .string r2.value] 43)).heap[x2.heap.size]? = some (.cells #[.string r2.key, .string r2.value] 43 (0, 0))) := ⟨heap_alloc_new x2 _⟩; clear hx2))
                obtain ⟨X, hX⟩ : ∃ X, x2.alloc (.cells #[.string r2.key, .string r2.value] 43) = X := ⟨_, rfl⟩
                rw [hX] at HO2 HBX2 HLR ⊢
                obtain ⟨q0, q1⟩ := cellsRw2 HLR.out
                have hXs := HBX2.out.size
                clear hX p0 p1 y0 y1 HLX HL2 HL1 HB1 HB2 HO1 HBX1
                have hp0 : X.drew.cell? ⟨x2.heap.size, 1, none⟩ = some (.string r2.value) := q1
                have d1 : Hid True := ⟨trivial⟩
                go_region_held3 (fun w' => w'.cell? ⟨x2.heap.size, 1, none⟩ = some (.string r2.value)) (first | with_reducible exact hp0 | with_reducible exact hp1 | with_reducible exact hp2 | with_reducible exact hp3 | with_reducible exact hp4) (first | (go_at_call 29; clear d1; refine (HC0.out _).mono ?_; rintro e z1 ⟨rfl, hz1x⟩; have hB1 : Below w3.heap.size w3 z1 := HBX2.out.drew.trans (hz1x.mono (by simpa using hXs)); have HM1 := hide ((hz1x.block _ (Array.getElem?_eq_some_iff.1 HLR.out).1).trans HLR.out); have hp1 := (cellsRw2 HM1.out).2; have HQ1 := hide (owns_stays2 HO2.out ((Below.refl _ _).drew.trans hz1x)); clear hp0) | (go_at_call 29; refine (HC1.out _).mono ?_; rintro e z2 ⟨rfl, hz2x⟩; have hB2 : Below w3.heap.size w3 z2 := hB1.trans (hz2x.mono hB1.size); have hB2s := hB2.size; have HM2 := hide ((hz2x.block _ (Array.getElem?_eq_some_iff.1 HM1.out).1).trans HM1.out); have hp2 := (cellsRw2 HM2.out).2; have HQ2 := hide (owns_stays2 HQ1.out hz2x); have hp3 := (cellsRw2 ((Below.heap_alloc z2 (.cells #[.string key, .bool false, .string r2.value] 48) _ (Array.getElem?_eq_some_iff.1 HM2.out).1).trans HM2.out)).2; clear hp1) | (refine step_append_lies _ (by rfl) _ _ _ (by rfl) w3.heap.size 48 i0 _ 3 40 Try.underlying29 hi hz0 hz1 hz2 rfl (by decide) _ out.length (flatG ChV.cells out) (by rfl) (HQ2.out.alloc _) ⟨z2.heap.size, 0, none⟩ 1 1 (ChV.cells ⟨key, false, r2.value⟩) (by rfl) rfl (newCh2 z2 key false r2.value _) (one1C _) (by omega) (by unfold maxLen; omega) (by omega) (by simp; omega) (z2.heap.size + 1) (by simp) ?_; intro gn cn y1 hown hgrow hatn hltn; have hp4 := (cellsRw2 ((hgrow.block x2.heap.size (by have := (Array.getElem?_eq_some_iff.1 HM2.out).1; simp; omega) (fun e => by have := (HO.out.lt _ e.symm).2; omega)).trans ((Below.heap_alloc z2 (.cells #[.string key, .bool false, .string r2.value] 48) _ (Array.getElem?_eq_some_iff.1 HM2.out).1).trans HM2.out))).2))
                have hB4 : Below w3.heap.size w3 y1 := (hB2.alloc hB2s _).grown hgrow (by simp; omega) (fun j hj => (HO.out.lt j hj).1)
                have HO4 : Hid (y1.ownsRow w3.heap.size 48 3 (.slice (some ⟨gn, 0, none⟩) (out.length + 1) cn) ((K.take (k + 1)).flatMap (chK was now)).length (flatG ChV.cells ((K.take (k + 1)).flatMap (chK was now)))) := ⟨by
                  rw [HT.out, List.flatMap_append, HOut.out, List.flatMap_cons, HE.out]
                  have e1 : (out ++ ([ChV.mk key false r2.value] ++ List.flatMap (chK was now) [])).length = out.length + 1 := by simp
                  have e2 : flatG ChV.cells (out ++ ([ChV.mk key false r2.value] ++ List.flatMap (chK was now) [])) = flatG ChV.cells out ++ ChV.cells ⟨key, false, r2.value⟩ := by rw [flatG_app]; simp [flatG]
                  rw [e1, e2]
                  exact hown⟩
                clear hown hgrow hp4 hatn
                go_wp2
                go_roundw
                case rel => exact ⟨k + 1, by omega, by go_num, HO4.out, hB4⟩
                case measure => simp [intOf]; omega
              · have HE := hide (chK_same Ht1.out Ht2.out Hr1.out Hr2.out hq)
                rw [hq] at hneq
                clear hq
                go_wp2_with (first | (go_at_call 28; clear s1; refine Hro.out.mono ?_; rintro e x1 ⟨rfl, hx1⟩; have HB1 := hide (HB.out.trans (hx1.mono HB.out.size)); have HO1 := hide ((owns_stays2 HO.out hx1).alloc (.cells #[.string r1.key, .string r1.value] 43)); have HBX1 := hide (HB1.out.alloc HB1.out.size (.cells #[.string r1.key, .string r1.value] 43)); have HL1 : Hid ((x1.alloc (.cells #[.string r1.key, .string r1.value] 43)).heap[x1.heap.size]? = some (.cells #[.string r1.key, .string r1.value] 43 (0, 0))) := ⟨heap_alloc_new x1 _⟩; have hz1s := hx1.size; clear hx1 c0) | (go_at_call 28; refine (Hrp.out _ HBX1.out).mono ?_; rintro e x2 ⟨rfl, hx2⟩; have HB2 := hide (HBX1.out.trans (hx2.mono HBX1.out.size)); have HO2 := hide ((owns_stays2 HO1.out hx2).alloc (.cells #[.string r2.key, .string r2.value] 43)); have HBX2 := hide (HB2.out.alloc HB2.out.size (.cells #[.string r2.key, .string r2.value] 43)); have HL2 := hide ((hx2.block _ (Array.getElem?_eq_some_iff.1 HL1.out).1).trans HL1.out); have hlx : x1.heap.size < x2.heap.size := (Array.getElem?_eq_some_iff.1 HL2.out).1; obtain ⟨p0, p1⟩ := cellsRw2 HL2.out; have HLX := hide ((Below.heap_alloc x2 (.cells #[.string r2.key, .string r2.value] 43) _ hlx).trans HL2.out); obtain ⟨y0, y1⟩ := cellsRw2 HLX.out; have HLR : Hid ((x2.alloc (.cells #[.string r2.key, .string r2.value] 43)).heap[x2.heap.size]? = some (.cells #[.string r2.key, .string r2.value] 43 (0, 0))) := ⟨heap_alloc_new x2 _⟩; clear hx2))
                go_roundw
                case rel => exact ⟨k + 1, by omega, by go_num, by rw [HT.out, List.flatMap_append, HOut.out, List.flatMap_cons, HE.out]; simpa using HO2.out, HBX2.out⟩
                case measure => simp [intOf]; omega
            · have HE := hide (chK_diff Ht1.out Ht2.out Hr1.out Hr2.out (by rfl))
              clear hneq
              go_wp2_with (first | (go_at_call 28; clear s1; refine Hro.out.mono ?_; rintro e x1 ⟨rfl, hx1⟩; have HB1 := hide (HB.out.trans (hx1.mono HB.out.size)); have HO1 := hide ((owns_stays2 HO.out hx1).alloc (.cells #[.string r1.key, .string r1.value] 43)); have HBX1 := hide (HB1.out.alloc HB1.out.size (.cells #[.string r1.key, .string r1.value] 43)); have HL1 : Hid ((x1.alloc (.cells #[.string r1.key, .string r1.value] 43)).heap[x1.heap.size]? = some (.cells #[.string r1.key, .string r1.value] 43 (0, 0))) := ⟨heap_alloc_new x1 _⟩; have hz1s := hx1.size; clear hx1 c0) | (go_at_call 28; refine (Hrp.out _ HBX1.out).mono ?_; rintro e x2 ⟨rfl, hx2⟩; have HB2 := hide (HBX1.out.trans (hx2.mono HBX1.out.size)); have HO2 := hide ((owns_stays2 HO1.out hx2).alloc (.cells #[.string r2.key, .string r2.value] 43)); have HBX2 := hide (HB2.out.alloc HB2.out.size (.cells #[.string r2.key, .string r2.value] 43)); have HL2 := hide ((hx2.block _ (Array.getElem?_eq_some_iff.1 HL1.out).1).trans HL1.out); have hlx : x1.heap.size < x2.heap.size := (Array.getElem?_eq_some_iff.1 HL2.out).1; obtain ⟨p0, p1⟩ := cellsRw2 HL2.out; have HLX := hide ((Below.heap_alloc x2 (.cells #[.string r2.key, .string r2.value] 43) _ hlx).trans HL2.out); obtain ⟨y0, y1⟩ := cellsRw2 HLX.out; have HLR : Hid ((x2.alloc (.cells #[.string r2.key, .string r2.value] 43)).heap[x2.heap.size]? = some (.cells #[.string r2.key, .string r2.value] 43 (0, 0))) := ⟨heap_alloc_new x2 _⟩; clear hx2))
              obtain ⟨X, hX⟩ : ∃ X, x2.alloc (.cells #[.string r2.key, .string r2.value] 43) = X := ⟨_, rfl⟩
              rw [hX] at HO2 HBX2 HLR ⊢
              obtain ⟨q0, q1⟩ := cellsRw2 HLR.out
              have hXs := HBX2.out.size
              clear hX p0 p1 y0 y1 HLX HL2 HL1 HB1 HB2 HO1 HBX1
              have hp0 : X.drew.cell? ⟨x2.heap.size, 1, none⟩ = some (.string r2.value) := q1
              have d1 : Hid True := ⟨trivial⟩
              go_region_held3 (fun w' => w'.cell? ⟨x2.heap.size, 1, none⟩ = some (.string r2.value)) (first | with_reducible exact hp0 | with_reducible exact hp1 | with_reducible exact hp2 | with_reducible exact hp3 | with_reducible exact hp4) (first | (go_at_call 29; clear d1; refine (HC0.out _).mono ?_; rintro e z1 ⟨rfl, hz1x⟩; have hB1 : Below w3.heap.size w3 z1 := HBX2.out.drew.trans (hz1x.mono (by simpa using hXs)); have HM1 := hide ((hz1x.block _ (Array.getElem?_eq_some_iff.1 HLR.out).1).trans HLR.out); have hp1 := (cellsRw2 HM1.out).2; have HQ1 := hide (owns_stays2 HO2.out ((Below.refl _ _).drew.trans hz1x)); clear hp0) | (go_at_call 29; refine (HC1.out _).mono ?_; rintro e z2 ⟨rfl, hz2x⟩; have hB2 : Below w3.heap.size w3 z2 := hB1.trans (hz2x.mono hB1.size); have hB2s := hB2.size; have HM2 := hide ((hz2x.block _ (Array.getElem?_eq_some_iff.1 HM1.out).1).trans HM1.out); have hp2 := (cellsRw2 HM2.out).2; have HQ2 := hide (owns_stays2 HQ1.out hz2x); have hp3 := (cellsRw2 ((Below.heap_alloc z2 (.cells #[.string key, .bool true, .string r2.value] 48) _ (Array.getElem?_eq_some_iff.1 HM2.out).1).trans HM2.out)).2; clear hp1) | (refine step_append_lies _ (by rfl) _ _ _ (by rfl) w3.heap.size 48 i0 _ 3 40 Try.underlying29 hi hz0 hz1 hz2 rfl (by decide) _ out.length (flatG ChV.cells out) (by rfl) (HQ2.out.alloc _) ⟨z2.heap.size, 0, none⟩ 1 1 (ChV.cells ⟨key, true, r2.value⟩) (by rfl) rfl (newCh2 z2 key true r2.value _) (one1C _) (by omega) (by unfold maxLen; omega) (by omega) (by simp; omega) (z2.heap.size + 1) (by simp) ?_; intro gn cn y1 hown hgrow hatn hltn; have hp4 := (cellsRw2 ((hgrow.block x2.heap.size (by have := (Array.getElem?_eq_some_iff.1 HM2.out).1; simp; omega) (fun e => by have := (HO.out.lt _ e.symm).2; omega)).trans ((Below.heap_alloc z2 (.cells #[.string key, .bool true, .string r2.value] 48) _ (Array.getElem?_eq_some_iff.1 HM2.out).1).trans HM2.out))).2))
              have hB4 : Below w3.heap.size w3 y1 := (hB2.alloc hB2s _).grown hgrow (by simp; omega) (fun j hj => (HO.out.lt j hj).1)
              have HO4 : Hid (y1.ownsRow w3.heap.size 48 3 (.slice (some ⟨gn, 0, none⟩) (out.length + 1) cn) ((K.take (k + 1)).flatMap (chK was now)).length (flatG ChV.cells ((K.take (k + 1)).flatMap (chK was now)))) := ⟨by
                rw [HT.out, List.flatMap_append, HOut.out, List.flatMap_cons, HE.out]
                have e1 : (out ++ ([ChV.mk key true r2.value] ++ List.flatMap (chK was now) [])).length = out.length + 1 := by simp
                have e2 : flatG ChV.cells (out ++ ([ChV.mk key true r2.value] ++ List.flatMap (chK was now) [])) = flatG ChV.cells out ++ ChV.cells ⟨key, true, r2.value⟩ := by rw [flatG_app]; simp [flatG]
                rw [e1, e2]
                exact hown⟩
              clear hown hgrow hp4 hatn
              go_wp2
              go_roundw
              case rel => exact ⟨k + 1, by omega, by go_num, HO4.out, hB4⟩
              case measure => simp [intOf]; omega
          · cases t2
            · have HE := hide (chK_diff Ht1.out Ht2.out Hr1.out Hr2.out (by rfl))
              clear hneq
              go_wp2_with (first | (go_at_call 28; clear s1; refine Hro.out.mono ?_; rintro e x1 ⟨rfl, hx1⟩; have HB1 := hide (HB.out.trans (hx1.mono HB.out.size)); have HO1 := hide ((owns_stays2 HO.out hx1).alloc (.cells #[.string r1.key, .string r1.value] 43)); have HBX1 := hide (HB1.out.alloc HB1.out.size (.cells #[.string r1.key, .string r1.value] 43)); have HL1 : Hid ((x1.alloc (.cells #[.string r1.key, .string r1.value] 43)).heap[x1.heap.size]? = some (.cells #[.string r1.key, .string r1.value] 43 (0, 0))) := ⟨heap_alloc_new x1 _⟩; have hz1s := hx1.size; clear hx1 c0) | (go_at_call 28; refine (Hrp.out _ HBX1.out).mono ?_; rintro e x2 ⟨rfl, hx2⟩; have HB2 := hide (HBX1.out.trans (hx2.mono HBX1.out.size)); have HO2 := hide ((owns_stays2 HO1.out hx2).alloc (.cells #[.string r2.key, .string r2.value] 43)); have HBX2 := hide (HB2.out.alloc HB2.out.size (.cells #[.string r2.key, .string r2.value] 43)); have HL2 := hide ((hx2.block _ (Array.getElem?_eq_some_iff.1 HL1.out).1).trans HL1.out); have hlx : x1.heap.size < x2.heap.size := (Array.getElem?_eq_some_iff.1 HL2.out).1; obtain ⟨p0, p1⟩ := cellsRw2 HL2.out; have HLX := hide ((Below.heap_alloc x2 (.cells #[.string r2.key, .string r2.value] 43) _ hlx).trans HL2.out); obtain ⟨y0, y1⟩ := cellsRw2 HLX.out; have HLR : Hid ((x2.alloc (.cells #[.string r2.key, .string r2.value] 43)).heap[x2.heap.size]? = some (.cells #[.string r2.key, .string r2.value] 43 (0, 0))) := ⟨heap_alloc_new x2 _⟩; clear hx2))
              obtain ⟨X, hX⟩ : ∃ X, x2.alloc (.cells #[.string r2.key, .string r2.value] 43) = X := ⟨_, rfl⟩
              rw [hX] at HO2 HBX2 HLR ⊢
              obtain ⟨q0, q1⟩ := cellsRw2 HLR.out
              have hXs := HBX2.out.size
              clear hX p0 p1 y0 y1 HLX HL2 HL1 HB1 HB2 HO1 HBX1
              have hp0 : X.drew.cell? ⟨x2.heap.size, 1, none⟩ = some (.string r2.value) := q1
              have d1 : Hid True := ⟨trivial⟩
              go_region_held3 (fun w' => w'.cell? ⟨x2.heap.size, 1, none⟩ = some (.string r2.value)) (first | with_reducible exact hp0 | with_reducible exact hp1 | with_reducible exact hp2 | with_reducible exact hp3 | with_reducible exact hp4) (first | (go_at_call 29; clear d1; refine (HC0.out _).mono ?_; rintro e z1 ⟨rfl, hz1x⟩; have hB1 : Below w3.heap.size w3 z1 := HBX2.out.drew.trans (hz1x.mono (by simpa using hXs)); have HM1 := hide ((hz1x.block _ (Array.getElem?_eq_some_iff.1 HLR.out).1).trans HLR.out); have hp1 := (cellsRw2 HM1.out).2; have HQ1 := hide (owns_stays2 HO2.out ((Below.refl _ _).drew.trans hz1x)); clear hp0) | (go_at_call 29; refine (HC1.out _).mono ?_; rintro e z2 ⟨rfl, hz2x⟩; have hB2 : Below w3.heap.size w3 z2 := hB1.trans (hz2x.mono hB1.size); have hB2s := hB2.size; have HM2 := hide ((hz2x.block _ (Array.getElem?_eq_some_iff.1 HM1.out).1).trans HM1.out); have hp2 := (cellsRw2 HM2.out).2; have HQ2 := hide (owns_stays2 HQ1.out hz2x); have hp3 := (cellsRw2 ((Below.heap_alloc z2 (.cells #[.string key, .bool false, .string r2.value] 48) _ (Array.getElem?_eq_some_iff.1 HM2.out).1).trans HM2.out)).2; clear hp1) | (refine step_append_lies _ (by rfl) _ _ _ (by rfl) w3.heap.size 48 i0 _ 3 40 Try.underlying29 hi hz0 hz1 hz2 rfl (by decide) _ out.length (flatG ChV.cells out) (by rfl) (HQ2.out.alloc _) ⟨z2.heap.size, 0, none⟩ 1 1 (ChV.cells ⟨key, false, r2.value⟩) (by rfl) rfl (newCh2 z2 key false r2.value _) (one1C _) (by omega) (by unfold maxLen; omega) (by omega) (by simp; omega) (z2.heap.size + 1) (by simp) ?_; intro gn cn y1 hown hgrow hatn hltn; have hp4 := (cellsRw2 ((hgrow.block x2.heap.size (by have := (Array.getElem?_eq_some_iff.1 HM2.out).1; simp; omega) (fun e => by have := (HO.out.lt _ e.symm).2; omega)).trans ((Below.heap_alloc z2 (.cells #[.string key, .bool false, .string r2.value] 48) _ (Array.getElem?_eq_some_iff.1 HM2.out).1).trans HM2.out))).2))
              have hB4 : Below w3.heap.size w3 y1 := (hB2.alloc hB2s _).grown hgrow (by simp; omega) (fun j hj => (HO.out.lt j hj).1)
              have HO4 : Hid (y1.ownsRow w3.heap.size 48 3 (.slice (some ⟨gn, 0, none⟩) (out.length + 1) cn) ((K.take (k + 1)).flatMap (chK was now)).length (flatG ChV.cells ((K.take (k + 1)).flatMap (chK was now)))) := ⟨by
                rw [HT.out, List.flatMap_append, HOut.out, List.flatMap_cons, HE.out]
                have e1 : (out ++ ([ChV.mk key false r2.value] ++ List.flatMap (chK was now) [])).length = out.length + 1 := by simp
                have e2 : flatG ChV.cells (out ++ ([ChV.mk key false r2.value] ++ List.flatMap (chK was now) [])) = flatG ChV.cells out ++ ChV.cells ⟨key, false, r2.value⟩ := by rw [flatG_app]; simp [flatG]
                rw [e1, e2]
                exact hown⟩
              clear hown hgrow hp4 hatn
              go_wp2
              go_roundw
              case rel => exact ⟨k + 1, by omega, by go_num, HO4.out, hB4⟩
              case measure => simp [intOf]; omega
            · cases hq : eqR r1 r2
              · have HE := hide (chK_diff Ht1.out Ht2.out Hr1.out Hr2.out (by rw [hq]; rfl))
                rw [hq] at hneq
                clear hq
                go_wp2_with (first | (go_at_call 28; clear s1; refine Hro.out.mono ?_; rintro e x1 ⟨rfl, hx1⟩; have HB1 := hide (HB.out.trans (hx1.mono HB.out.size)); have HO1 := hide ((owns_stays2 HO.out hx1).alloc (.cells #[.string r1.key, .string r1.value] 43)); have HBX1 := hide (HB1.out.alloc HB1.out.size (.cells #[.string r1.key, .string r1.value] 43)); have HL1 : Hid ((x1.alloc (.cells #[.string r1.key, .string r1.value] 43)).heap[x1.heap.size]? = some (.cells #[.string r1.key, .string r1.value] 43 (0, 0))) := ⟨heap_alloc_new x1 _⟩; have hz1s := hx1.size; clear hx1 c0) | (go_at_call 28; refine (Hrp.out _ HBX1.out).mono ?_; rintro e x2 ⟨rfl, hx2⟩; have HB2 := hide (HBX1.out.trans (hx2.mono HBX1.out.size)); have HO2 := hide ((owns_stays2 HO1.out hx2).alloc (.cells #[.string r2.key, .string r2.value] 43)); have HBX2 := hide (HB2.out.alloc HB2.out.size (.cells #[.string r2.key, .string r2.value] 43)); have HL2 := hide ((hx2.block _ (Array.getElem?_eq_some_iff.1 HL1.out).1).trans HL1.out); have hlx : x1.heap.size < x2.heap.size := (Array.getElem?_eq_some_iff.1 HL2.out).1; obtain ⟨p0, p1⟩ := cellsRw2 HL2.out; have HLX := hide ((Below.heap_alloc x2 (.cells #[.string r2.key, .string r2.value] 43) _ hlx).trans HL2.out); obtain ⟨y0, y1⟩ := cellsRw2 HLX.out; have HLR : Hid ((x2.alloc (.cells #[.string r2.key, .string r2.value] 43)).heap[x2.heap.size]? = some (.cells #[.string r2.key, .string r2.value] 43 (0, 0))) := ⟨heap_alloc_new x2 _⟩; clear hx2))
                obtain ⟨X, hX⟩ : ∃ X, x2.alloc (.cells #[.string r2.key, .string r2.value] 43) = X := ⟨_, rfl⟩
                rw [hX] at HO2 HBX2 HLR ⊢
                obtain ⟨q0, q1⟩ := cellsRw2 HLR.out
                have hXs := HBX2.out.size
                clear hX p0 p1 y0 y1 HLX HL2 HL1 HB1 HB2 HO1 HBX1
                have hp0 : X.drew.cell? ⟨x2.heap.size, 1, none⟩ = some (.string r2.value) := q1
                have d1 : Hid True := ⟨trivial⟩
                go_region_held3 (fun w' => w'.cell? ⟨x2.heap.size, 1, none⟩ = some (.string r2.value)) (first | with_reducible exact hp0 | with_reducible exact hp1 | with_reducible exact hp2 | with_reducible exact hp3 | with_reducible exact hp4) (first | (go_at_call 29; clear d1; refine (HC0.out _).mono ?_; rintro e z1 ⟨rfl, hz1x⟩; have hB1 : Below w3.heap.size w3 z1 := HBX2.out.drew.trans (hz1x.mono (by simpa using hXs)); have HM1 := hide ((hz1x.block _ (Array.getElem?_eq_some_iff.1 HLR.out).1).trans HLR.out); have hp1 := (cellsRw2 HM1.out).2; have HQ1 := hide (owns_stays2 HO2.out ((Below.refl _ _).drew.trans hz1x)); clear hp0) | (go_at_call 29; refine (HC1.out _).mono ?_; rintro e z2 ⟨rfl, hz2x⟩; have hB2 : Below w3.heap.size w3 z2 := hB1.trans (hz2x.mono hB1.size); have hB2s := hB2.size; have HM2 := hide ((hz2x.block _ (Array.getElem?_eq_some_iff.1 HM1.out).1).trans HM1.out); have hp2 := (cellsRw2 HM2.out).2; have HQ2 := hide (owns_stays2 HQ1.out hz2x); have hp3 := (cellsRw2 ((Below.heap_alloc z2 (.cells #[.string key, .bool true, .string r2.value] 48) _ (Array.getElem?_eq_some_iff.1 HM2.out).1).trans HM2.out)).2; clear hp1) | (refine step_append_lies _ (by rfl) _ _ _ (by rfl) w3.heap.size 48 i0 _ 3 40 Try.underlying29 hi hz0 hz1 hz2 rfl (by decide) _ out.length (flatG ChV.cells out) (by rfl) (HQ2.out.alloc _) ⟨z2.heap.size, 0, none⟩ 1 1 (ChV.cells ⟨key, true, r2.value⟩) (by rfl) rfl (newCh2 z2 key true r2.value _) (one1C _) (by omega) (by unfold maxLen; omega) (by omega) (by simp; omega) (z2.heap.size + 1) (by simp) ?_; intro gn cn y1 hown hgrow hatn hltn; have hp4 := (cellsRw2 ((hgrow.block x2.heap.size (by have := (Array.getElem?_eq_some_iff.1 HM2.out).1; simp; omega) (fun e => by have := (HO.out.lt _ e.symm).2; omega)).trans ((Below.heap_alloc z2 (.cells #[.string key, .bool true, .string r2.value] 48) _ (Array.getElem?_eq_some_iff.1 HM2.out).1).trans HM2.out))).2))
                have hB4 : Below w3.heap.size w3 y1 := (hB2.alloc hB2s _).grown hgrow (by simp; omega) (fun j hj => (HO.out.lt j hj).1)
                have HO4 : Hid (y1.ownsRow w3.heap.size 48 3 (.slice (some ⟨gn, 0, none⟩) (out.length + 1) cn) ((K.take (k + 1)).flatMap (chK was now)).length (flatG ChV.cells ((K.take (k + 1)).flatMap (chK was now)))) := ⟨by
                  rw [HT.out, List.flatMap_append, HOut.out, List.flatMap_cons, HE.out]
                  have e1 : (out ++ ([ChV.mk key true r2.value] ++ List.flatMap (chK was now) [])).length = out.length + 1 := by simp
                  have e2 : flatG ChV.cells (out ++ ([ChV.mk key true r2.value] ++ List.flatMap (chK was now) [])) = flatG ChV.cells out ++ ChV.cells ⟨key, true, r2.value⟩ := by rw [flatG_app]; simp [flatG]
                  rw [e1, e2]
                  exact hown⟩
                clear hown hgrow hp4 hatn
                go_wp2
                go_roundw
                case rel => exact ⟨k + 1, by omega, by go_num, HO4.out, hB4⟩
                case measure => simp [intOf]; omega
              · have HE := hide (chK_same Ht1.out Ht2.out Hr1.out Hr2.out hq)
                rw [hq] at hneq
                clear hq
                go_wp2_with (first | (go_at_call 28; clear s1; refine Hro.out.mono ?_; rintro e x1 ⟨rfl, hx1⟩; have HB1 := hide (HB.out.trans (hx1.mono HB.out.size)); have HO1 := hide ((owns_stays2 HO.out hx1).alloc (.cells #[.string r1.key, .string r1.value] 43)); have HBX1 := hide (HB1.out.alloc HB1.out.size (.cells #[.string r1.key, .string r1.value] 43)); have HL1 : Hid ((x1.alloc (.cells #[.string r1.key, .string r1.value] 43)).heap[x1.heap.size]? = some (.cells #[.string r1.key, .string r1.value] 43 (0, 0))) := ⟨heap_alloc_new x1 _⟩; have hz1s := hx1.size; clear hx1 c0) | (go_at_call 28; refine (Hrp.out _ HBX1.out).mono ?_; rintro e x2 ⟨rfl, hx2⟩; have HB2 := hide (HBX1.out.trans (hx2.mono HBX1.out.size)); have HO2 := hide ((owns_stays2 HO1.out hx2).alloc (.cells #[.string r2.key, .string r2.value] 43)); have HBX2 := hide (HB2.out.alloc HB2.out.size (.cells #[.string r2.key, .string r2.value] 43)); have HL2 := hide ((hx2.block _ (Array.getElem?_eq_some_iff.1 HL1.out).1).trans HL1.out); have hlx : x1.heap.size < x2.heap.size := (Array.getElem?_eq_some_iff.1 HL2.out).1; obtain ⟨p0, p1⟩ := cellsRw2 HL2.out; have HLX := hide ((Below.heap_alloc x2 (.cells #[.string r2.key, .string r2.value] 43) _ hlx).trans HL2.out); obtain ⟨y0, y1⟩ := cellsRw2 HLX.out; have HLR : Hid ((x2.alloc (.cells #[.string r2.key, .string r2.value] 43)).heap[x2.heap.size]? = some (.cells #[.string r2.key, .string r2.value] 43 (0, 0))) := ⟨heap_alloc_new x2 _⟩; clear hx2))
                go_roundw
                case rel => exact ⟨k + 1, by omega, by go_num, by rw [HT.out, List.flatMap_append, HOut.out, List.flatMap_cons, HE.out]; simpa using HO2.out, HBX2.out⟩
                case measure => simp [intOf]; omega
        · obtain rfl : k = K.length := by omega
          have HF2 : Hid (wr.ownsRow w.heap.size 48 3 u5 (chgs was now).length (flatG ChV.cells (chgs was now))) := ⟨by
            have h1 := hO
            rw [List.take_length, ← HK.out] at h1
            exact owns_lowC h1 HB3.out.size⟩
          have hBF := HB3.out.trans (hb.mono HB3.out.size)
          clear hO
          go_wp2
          go_ret
          exact ⟨_, rfl, by rw [HF.out]; exact HF2.out, hBF⟩
end Go.Proofs.Ytmidembbanlleag.OpR
