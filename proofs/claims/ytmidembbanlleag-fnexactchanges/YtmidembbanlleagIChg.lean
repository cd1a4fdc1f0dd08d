/- Proves what impl.rowOf, impl.eitherKeys and impl.Changes answer. -/
import Derived.Test.YtmidembbanlleagCpW
import Derived.Test.YtmidembbanlleagCmpW
import Derived.Test.YtmidembbanlleagSChg
namespace Go.Proofs.Ytmidembbanlleag.OpR
open Go.ChangeShapes Go.WideShapes Go.ChangeAt Go.RowKit
set_option linter.unusedVariables false

set_option maxRecDepth 100000 in
set_option maxHeartbeats 1000000 in
theorem rowOf_any (l : List PropV) (ao : Option Addr) (cap : Nat) (key : ByteArray) (w : World) (hl : l.length ≤ 150) (hR : RisesK l) (hA : PropsAt w ao l) :
    Calls Try.prog 28 #[.slice ao l.length cap, .string key] w fun e w' => e = .returned (.tuple #[(rowAt key l).agg, .bool (thereK key l)]) ∧ Below w.heap.size w w' := by
  have HP := hide (fun W (hW : Below w.heap.size w W) => placeOf_any l ao cap key W hl hR (hA.stays hW))
  have HA := hide hA
  have HB0 := hide ((Below.refl w.heap.size w).alloc (Nat.le_refl _) (.cells #[.string ⟨#[]⟩, .string ⟨#[]⟩] 43))
  have HL0 : Hid ((w.alloc (.cells #[.string ⟨#[]⟩, .string ⟨#[]⟩] 43)).heap[w.heap.size]? = some (.cells #[.string ⟨#[]⟩, .string ⟨#[]⟩] 43 (0, 0))) := ⟨heap_alloc_new w _⟩
  clear hA
  cases ht : thereK key l
  · have HE := hide (rowAt_no ht)
    have HT := hide ht
    clear ht
    go_enter Try.func28, Try.ntmps28
    go_wp2_with (first | (go_at_call 40; have h1 := HP.out _ HB0.out; rw [HT.out] at h1; refine h1.mono ?_; rintro e x1 ⟨rfl, hx1⟩; have HB1 := hide (HB0.out.trans (hx1.mono HB0.out.size)); have HL1 := hide ((hx1.block _ (Array.getElem?_eq_some_iff.1 HL0.out).1).trans HL0.out); obtain ⟨q0, q1⟩ := cellsRw2 HL1.out; have f0 : x1.frozen? ⟨w.heap.size, 0, none⟩ = false := (by simp [World.frozen?, HL1.out]); have f1 : x1.frozen? ⟨w.heap.size, 1, none⟩ = false := (by simp [World.frozen?, HL1.out]); clear h1 hx1))
    refine bodyPost_ret (v := .tuple #[.agg #[.string ⟨#[]⟩, .string ⟨#[]⟩], .bool false]) (by simp [results, Try.results28, go_sem, q0, q1]) rfl ⟨?_, ?_⟩
    · rw [HE.out]; rfl
    · exact ((HB1.out.setCell (p := ⟨w.heap.size, 0, none⟩) (Nat.le_refl _) _).setCell (p := ⟨w.heap.size, 1, none⟩) (Nat.le_refl _) _)
  · obtain ⟨n, hn⟩ : ∃ n, cutK key l = n := ⟨_, rfl⟩
    have he0 : ∃ h : n < l.length, rowAt key l = l[n] := by subst hn; exact ⟨thereK_lt ht, rowAt_yes ht⟩
    obtain ⟨hlt, he⟩ := he0
    obtain ⟨b, off, rfl, hbl, ho⟩ := HA.out n hlt
    have HO := hide ho
    have HE := hide he
    have HT := hide ht
    have HN := hide hn
    have hi0 : (0 : Int) ≤ (n : Int) := by omega
    have hi1 : (n : Int) < (l.length : Int) := by omega
    clear ht hn ho he
    go_enter Try.func28, Try.ntmps28
    go_wp2_with (first | (go_at_call 40; have h1 := HP.out _ HB0.out; rw [HT.out, HN.out] at h1; refine h1.mono ?_; rintro e x1 ⟨rfl, hx1⟩; have HB1 := hide (HB0.out.trans (hx1.mono HB0.out.size)); have HL1 := hide ((hx1.block _ (Array.getElem?_eq_some_iff.1 HL0.out).1).trans HL0.out); obtain ⟨q0, q1⟩ := cellsRw2 HL1.out; have f0 : x1.frozen? ⟨w.heap.size, 0, none⟩ = false := (by simp [World.frozen?, HL1.out]); have f1 : x1.frozen? ⟨w.heap.size, 1, none⟩ = false := (by simp [World.frozen?, HL1.out]); obtain ⟨c0, c1⟩ := HO.out.block (w' := x1) (HB1.out.block b hbl); clear h1 hx1))
    refine bodyPost_ret (v := .tuple #[.agg #[.string l[n].key, .string l[n].value], .bool true]) (by simp [results, Try.results28, go_sem, q0, q1]) rfl ⟨?_, ?_⟩
    · rw [HE.out]; rfl
    · exact ((HB1.out.setCell (p := ⟨w.heap.size, 0, none⟩) (Nat.le_refl _) _).setCell (p := ⟨w.heap.size, 1, none⟩) (Nat.le_refl _) _)
set_option maxRecDepth 100000 in
theorem compact_none (w : World) :
    Calls Try.prog 39 #[.slice none 0 0] w fun e w' => e = .returned (.slice none 0 0) ∧ w = w' := by
  go_enter Try.func39, Try.ntmps39
  go_wp2
  go_ret
  exact ⟨rfl, rfl⟩
theorem compact_all (ts : List ByteArray) (base : Nat) (v : Value) (w : World) (hO : TxtRow w base v ts) (hl : ts.length ≤ 1048576) :
    Calls Try.prog 39 #[v] w fun e w' => ∃ v', e = .returned v' ∧ TxtRow w' base v' (dd ts) ∧ w.grownBy w' v.ownBlock := by
  rcases hO.2 with ⟨e, hn⟩ | ⟨g, cap, cur, e, hb, hg, h1, h2, h3, h4⟩
  · obtain rfl : ts = [] := List.eq_nil_of_length_eq_zero hn
    subst e
    refine (compact_none w).mono ?_
    rintro e w' ⟨rfl, rfl⟩
    exact ⟨_, rfl, hO, ⟨rfl, rfl, rfl, Nat.le_refl _, fun _ _ _ => rfl⟩⟩
  · subst e
    refine (compact_any ts base g cap w hO hl h1).mono ?_
    rintro e w' ⟨rfl, h5, h6⟩
    exact ⟨_, rfl, h5, h6⟩
theorem TxtRow.low {w : World} {base base' : Nat} {v : Value} {ks : List ByteArray} (h : TxtRow w base v ks) (hb : base' ≤ base) : TxtRow w base' v ks :=
  ⟨h.1, h.2.imp id fun ⟨g, cap, cur, e1, hg, r⟩ => ⟨g, cap, cur, e1, Nat.le_trans hb hg, r⟩⟩
/-- Texts that lie in a slice. -/
def TxtsAt (w : World) (ao : Option Addr) (ks : List ByteArray) : Prop := ∀ j (hj : j < ks.length), ∃ g, ao = some ⟨g, 0, none⟩ ∧ g < w.heap.size ∧ w.cell? ⟨g, j, none⟩ = some (.string ks[j])
theorem TxtsAt.stays {w w' : World} {ao : Option Addr} {ks : List ByteArray} (h : TxtsAt w ao ks) (hb : Below w.heap.size w w') : TxtsAt w' ao ks := fun j hj => by
  obtain ⟨g, e, hlt, hc⟩ := h j hj
  exact ⟨g, e, Nat.lt_of_lt_of_le hlt hb.size, by simpa only [World.cell?, hb.block g hlt] using hc⟩
theorem TxtRow.slice {w : World} {base : Nat} {v : Value} {ks : List ByteArray} (h : TxtRow w base v ks) : ∃ ao c, v = .slice ao ks.length c ∧ TxtsAt w ao ks := by
  have h0 := h
  rcases h.2 with ⟨e, hn⟩ | ⟨g, cap, cur, rfl, hb, hg, hl, hm, hs, ht⟩
  · obtain rfl : ks = [] := List.eq_nil_of_length_eq_zero hn
    exact ⟨none, 0, e, fun j hj => absurd hj (by simp)⟩
  · exact ⟨_, cap, rfl, fun j hj => ⟨g, rfl, h0.cell.1, h0.cell.2 j hj⟩⟩
theorem below_grown {w c c' : World} {r : Option Nat} (h : Below w.heap.size w c) (hg : c.grownBy c' r) (hr : ∀ g, r = some g → w.heap.size ≤ g) : Below w.heap.size w c' :=
  h.grown hg h.size hr
theorem newTxt2 (x : World) (o : Obj) (t0 : ByteArray) (T : TypeId) : ∀ j u, (txts [t0])[j]? = some u → ((x.alloc o).alloc (.cells #[.string t0] T)).cell? ((⟨x.heap.size + 1, 0, none⟩ : Addr).add j) = some u := by simpa using news1 (x.alloc o) t0 T
theorem newTxt (x : World) (t0 : ByteArray) (T : TypeId) : ∀ j u, (txts [t0])[j]? = some u → (x.alloc (.cells #[.string t0] T)).cell? ((⟨x.heap.size, 0, none⟩ : Addr).add j) = some u := news1 x t0 T
set_option maxRecDepth 100000 in
set_option maxHeartbeats 1000000 in
theorem eitherKeys_any (a b : List PropV) (ao bo : Option Addr) (ca cb : Nat) (w : World) (ha : a.length ≤ 150) (hb : b.length ≤ 150) (hca : a.length ≤ ca) (hcb : b.length ≤ cb) (hA : PropsAt w ao a) (hB : PropsAt w bo b) :
    Calls Try.prog 27 #[.slice ao a.length ca, .slice bo b.length cb] w fun e w' => ∃ v, e = .returned v ∧ TxtRow w' w.heap.size v (keysOf a b) ∧ Below w.heap.size w w' := by
  have hm := mergedR_any a b ao bo ca cb w (by omega) (by omega) hca hcb hA hB
  unfold aheadFnR at hm
  have HMl := hide (mrgR_len a b)
  unfold keysOf
  obtain ⟨M, hM⟩ : ∃ M, mrgR a b = M := ⟨_, rfl⟩
  rw [hM] at hm HMl ⊢
  have hMl : M.length ≤ 300 := by have := HMl.out; omega
  have HMG := hide hm
  clear hA hB hM hm
  go_enter Try.func27, Try.ntmps27
  go_wp2_with (first | (go_at_call 38; refine HMG.out.mono ?_; rintro e w1 ⟨v1, rfl, hO1, hb1⟩; obtain ⟨g1, c1, rfl, hg1, hg2, _, _⟩ := hO1.at; have HA1 := hide (owns_cellsR hO1.1); have HB1 := hide hb1; clear hO1 hb1))
  go_loopw [5, 12] (fun vk i wr => ∃ k : Nat, k ≤ M.length ∧ i = .int .i64 k ∧ TxtRow wr w1.heap.size vk ((M.take k).map PropV.key) ∧ Below w1.heap.size w1 wr) (fun _ i _ => M.length - (intOf i).toNat)
  case atStart => exact ⟨0, by omega, rfl, World.ownsRow_nil _ _ _ _, Below.refl _ _⟩
  case round =>
    obtain ⟨k, hk, rfl, hO, hbr⟩ := hrel
    have HO := hide hO
    have HB := hide hbr
    have hBw : Below w.heap.size w wr := HB1.out.trans (hbr.mono HB1.out.size)
    have hbs := hBw.size
    clear hO hbr
    by_cases h : k < M.length
    · obtain ⟨b1, off1, e1, hlt, ho⟩ := HA1.out k h
      cases e1
      obtain ⟨c0, c1⟩ := ho.block (w' := wr) (HB.out.block g1 hlt)
      have hi0 : (0 : Int) ≤ (k : Int) := by omega
      have hi1 : (k : Int) < (M.length : Int) := by omega
      have HLn : Hid (((M.take k).map PropV.key).length = k) := ⟨by simp; omega⟩
      rw [Nat.zero_add] at c0 c1
      clear ho
      go_wp2_with (at_builtin; refine wpList_append_T rfl _ _ rfl w1.heap.size _ ((M.take k).map PropV.key) rfl ((HO.out.alloc _).alloc _) ⟨wr.heap.size + 1, 0, none⟩ [M[k].key] 1 rfl (newTxt2 wr _ M[k].key _) (by simp; omega) (by have := HB.out.size; simp; omega) ?_)
      intro v1 y1 hO1 hg1
      have hB3 : Below w1.heap.size w1 y1 := ((HB.out.alloc HB.out.size _).alloc (by have := HB.out.size; simp; omega) _).grown hg1 (by have := HB.out.size; simp; omega) (fun g hg => (World.ownsRow.lt HO.out g hg).1)
      have HO3 := hide hO1
      clear hO1 hg1
      go_wp2
      go_roundw
      case rel => exact ⟨k + 1, by omega, by go_num, by rw [← List.take_append_getElem h, List.map_append, List.map_take]; exact HO3.out, hB3⟩
      case measure => simp [intOf]; omega
    · obtain rfl : k = M.length := by omega
      have HF : Hid (TxtRow wr w1.heap.size u5 (M.map PropV.key)) := ⟨by have := HO.out; rwa [List.take_length] at this⟩
      go_wp2_with (first | (go_at_call 39; refine (compact_all (M.map PropV.key) w1.heap.size u5 wr HF.out (by simp; omega)).mono ?_; rintro e w2 ⟨v2, rfl, hO2, hg2⟩; have HO2 := hide (hO2.low HB1.out.size); have HB2 := hide (hBw.grown hg2 hbs (fun g hg => Nat.le_trans HB1.out.size (World.ownsRow.lt HF.out g hg).1)); clear hO2 hg2))
      go_ret
      exact ⟨_, rfl, HO2.out, HB2.out⟩
end Go.Proofs.Ytmidembbanlleag.OpR
