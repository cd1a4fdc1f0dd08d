/- Proves what impl.Follow answers: the rows that changes make of rows, in memory of its own. -/
import Derived.Test.YtmidembbanlleagCmpW
import Derived.Test.YtmidembbanlleagRwO
namespace Go.Proofs.Ytmidembbanlleag.OpR
open Go.ChangeShapes Go.WideShapes Go.ChangeAt Go.RowKit
set_option linter.unusedVariables false

theorem cellsCh3 {w : World} {g : Nat} {v0 v1 v2 : Value} {T : TypeId} (h : w.heap[g]? = some (.cells #[v0, v1, v2] T (0, 0))) :
    w.cell? ⟨g, 0, none⟩ = some v0 ∧ w.cell? ⟨g, 1, none⟩ = some v1 ∧ w.cell? ⟨g, 2, none⟩ = some v2 := ⟨by simp [World.cell?, h], by simp [World.cell?, h], by simp [World.cell?, h]⟩
theorem flw_step {out tot p : List PropV} {l : List ChV} {k : Nat} {c : ChV} (h : k < l.length) (hs : l[k] = c) (hM : out ++ flw (l.drop k) p = tot) : ((out ++ p.take (cutK c.key p)) ++ rowC c) ++ flw (l.drop (k + 1)) (restK c.key p) = tot := by
  rw [← hM, List.drop_eq_getElem_cons h, hs, flw]
  simp
set_option maxRecDepth 100000 in
set_option maxHeartbeats 400000 in
theorem changeAhead_any (a b : ChV) (w : World) :
    Calls Try.prog 35 #[a.agg, b.agg] w fun e w' => e = .returned (.bool (keyLt a.key b.key)) ∧ Below w.heap.size w w' := by
  unfold ChV.agg
  go_enter Try.func35, Try.ntmps35
  go_wp2
  go_ret
  exact ⟨rfl, ((Below.refl _ _).alloc (Nat.le_refl _) _).alloc (by simp) _⟩
set_option maxRecDepth 100000 in
set_option maxHeartbeats 400000 in
theorem iRisesC_any (l : List ChV) (ao : Option Addr) (cap : Nat) (w : World) (hl : l.length ≤ maxLen) (hA : ChsAt w ao l) :
    Calls Try.prog 34 #[.slice ao l.length cap, .func (.func 35) #[] #[]] w fun e w' => e = .returned (.bool (allTo l.length (chRise l))) ∧ Below w.heap.size w w' := by
  unfold maxLen at hl
  have HA : Hid (ChsAt w ao l) := ⟨hA⟩
  clear hA
  go_enter Try.func34, Try.ntmps34
  go_wp2
  go_loopw [5] (fun i wr => ∃ k : Nat, (k ≤ l.length ∨ k = 0) ∧ i = .int .i64 ((k : Int) + 1) ∧ (∀ j (h : j + 1 < l.length), j < k → keyLt l[j].key l[j + 1].key = true) ∧ Below w.heap.size w wr) (fun i _ => l.length - (intOf i).toNat)
  case atStart => exact ⟨0, .inr rfl, by go_num, fun j h hj => by omega, Below.refl _ _⟩
  case round =>
    obtain ⟨k, hk, rfl, hal, hb⟩ := hrel
    have HL : Hid (∀ j (h : j + 1 < l.length), j < k → keyLt l[j].key l[j + 1].key = true) := ⟨hal⟩
    clear hal hk
    by_cases h : k + 1 < l.length
    · obtain ⟨b, off, rfl, hlt, ho⟩ := HA.out (k + 1) h
      have hT : (((k : Int) + 1).toNat) = k + 1 := by omega
      have hi3 : (0 : Int) ≤ (k : Int) + 1 := by omega
      have hW : IntKind.i64.wrap (k : Int) = (k : Int) := by rw [IntKind.wrap_i64]; omega
      have hW2 : wrap64 (k : Int) = (k : Int) := by unfold wrap64; omega
      obtain ⟨c0, c1, c2⟩ := ho.block (w' := wr) (hb.block b hlt)
      obtain ⟨b2, off2, hq, hlt2, ho2⟩ := HA.out k (by omega)
      cases hq
      obtain ⟨d0, d1, d2⟩ := ho2.block (w' := wr) (hb.block b hlt)
      have hcall := changeAhead_any l[k] l[k + 1] wr.drew
      unfold ChV.agg at hcall
      have hi0 : (0 : Int) ≤ (k : Int) := by omega
      have hi1 : (k : Int) + 1 < (l.length : Int) := by omega
      have hi2 : (k : Int) < (l.length : Int) := by omega
      clear ho ho2
      go_wp2
      go_region_with (go_at_call 35; refine hcall.mono ?_; rintro e w1 ⟨rfl, hb1⟩)
      all_goals (
        clear hcall c0 c1 c2 d0 d1 d2
        cases ha : keyLt l[k].key l[k + 1].key
        · have HF : Hid (allTo l.length (chRise l) = false) := ⟨bool_no (chRise_iff l) fun hr => by rw [hr k h] at ha; cases ha⟩
          go_wp2
          go_ret
          exact ⟨ret_bool (by rw [HF.out]), hb.drew.trans (hb1.mono hb.size)⟩
        · have HA2 := hide ha
          go_wp2
          go_roundw
          case rel =>
            refine ⟨k + 1, .inl (by omega), by go_num, fun j hj hjk => ?_, hb.drew.trans (hb1.mono hb.size)⟩
            rcases Nat.lt_or_ge j k with h' | h'
            · exact HL.out j hj h'
            · obtain rfl : j = k := by omega
              exact HA2.out
          case measure => simp [intOf]; omega)
    · have HF : Hid (allTo l.length (chRise l) = true) := ⟨(chRise_iff l).2 fun j hj => HL.out j hj (by omega)⟩
      go_wp2
      go_ret
      exact ⟨ret_bool (by rw [HF.out]), hb⟩
theorem flw_sized {was : List PropV} {l : List ChV} {m : Nat} (h : SizedP m was) (hc : SizedC m l) : SizedP m (flw l was) := by
  induction l generalizing was with
  | nil => exact h
  | cons c cs ih =>
    intro x hx
    rw [flw, List.mem_append, List.mem_append] at hx
    rcases hx with hx | hx | hx
    · exact h x (List.mem_of_mem_take hx)
    · unfold rowC at hx
      split at hx
      · rw [List.mem_singleton] at hx
        subst hx
        exact hc c (by simp)
      · simp at hx
    · exact ih (fun y hy => h y (List.mem_of_mem_drop hy)) (fun y hy => hc y (by simp [hy])) x hx
theorem owns_base2 {w : World} {base base' : Nat} {T : TypeId} {c : Nat} {v : Value} {n : Nat} {xs : List Value} (h : w.ownsRow base T c v n xs) (hb : base' ≤ base) : w.ownsRow base' T c v n xs :=
  ⟨h.1, h.2.imp id fun ⟨g, cap, cur, e1, hg, r⟩ => ⟨g, cap, cur, e1, Nat.le_trans hb hg, r⟩⟩
set_option maxRecDepth 100000 in
set_option maxHeartbeats 4000000 in
theorem followed_any (was : List PropV) (l : List ChV) (ao lo : Option Addr) (ca cl : Nat) (w : World) (hw : was.length ≤ 150) (hl : l.length ≤ 400) (hca : was.length ≤ ca) (hR : RisesK was) (hA : PropsAt w ao was) (hC : ChsAt w lo l) :
    Calls Try.prog 36 #[.slice ao was.length ca, .slice lo l.length cl] w fun e w' => ∃ v, e = .returned v ∧ w'.ownsRow w.heap.size 43 2 v (flw l was).length (flatG PropV.cells (flw l was)) ∧ Below w.heap.size w w' := by
  have HA := hide hA
  have HC := hide hC
  have HR := hide hR
  have HCa := hide hca
  clear hA hC hR hca
  go_enter Try.func36, Try.ntmps36
  go_wp2
  go_loopw [0, 5, 12] (fun va vo i wr => ∃ (k : Nat) (p out : List PropV) (pao : Option Addr) (pc : Nat), k ≤ l.length ∧ i = .int .i64 k ∧ va = .slice pao p.length pc ∧ p.length ≤ pc ∧ p.length ≤ 150 ∧ RisesK p ∧ PropsAt w pao p ∧ wr.ownsRow w.heap.size 43 2 vo out.length (flatG PropV.cells out) ∧ out ++ flw (l.drop k) p = flw l was ∧ out.length + p.length ≤ 150 + k ∧ Below w.heap.size w wr) (fun _ _ i _ => l.length - (intOf i).toNat)
  case atStart => exact ⟨0, was, [], ao, ca, by omega, rfl, rfl, HCa.out, hw, HR.out, HA.out, World.ownsRow_nil _ _ _ _, rfl, by simp; omega, Below.refl _ _⟩
  case round =>
    obtain ⟨k, p, out, pao, pc, hk, rfl, rfl, hpc, hp150, hRp, hP, hO, hM, hlen, hb⟩ := hrel
    have HRp := hide hRp
    have HP := hide hP
    have HO := hide hO
    have HM := hide hM
    have hbs := hb.size
    clear hRp hP hO hM
    by_cases h : k < l.length
    · obtain ⟨b, off, rfl, hlt, ho⟩ := HC.out k h
      obtain ⟨c0, c1, c2⟩ := ho.block (w' := wr) (hb.block b hlt)
      have hstep := flw_step h rfl HM.out
      obtain ⟨⟨ck, ch, cn⟩, hs⟩ : ∃ s, l[k] = s := ⟨_, rfl⟩
      rw [hs] at c0 c1 c2 hstep
      simp only at c0 c1 c2 hstep
      have hi0 : (0 : Int) ≤ (k : Int) := by omega
      have hi1 : (k : Int) < (l.length : Int) := by omega
      clear ho hs
      have HB := hide hb
      have hpl := fun W (hW : Below w.heap.size w W) => placeOf_any p pao pc ck W hp150 HRp.out (HP.out.stays hW)
      have hcle := cutK_le ck p
      have hthl := thereK_lt (k := ck) (l := p)
      unfold restK at hstep
      obtain ⟨n, hn⟩ : ∃ n, cutK ck p = n := ⟨_, rfl⟩
      obtain ⟨th, hth⟩ : ∃ th, thereK ck p = th := ⟨_, rfl⟩
      simp only [hn, hth] at hpl hcle hthl hstep
      have HST := hide hstep
      have HPL := hide hpl
      obtain ⟨a1, e1, q1, hq1, hsl1, hp1⟩ := slice_takeR pao pc p hpc hcle
      obtain ⟨a2, e2, q2, hq2, hsl2, hp2, hc2⟩ := slice_dropR pao pc p hpc hcle
      have Hp1 := hide hp1
      have Hp2 := hide hp2
      have hl1 : q1.length = n := by rw [hq1, List.length_take]; omega
      have hl2 : q2.length = p.length - n := by rw [hq2, List.length_drop]
      have Hq1 := hide hq1
      have Hq2 := hide hq2
      have HL1 := hide hl1
      have HL2 := hide hl2
      clear hstep hpl hn hth hp1 hp2 hq1 hq2 hl1 hl2
      have L0 : (wr.alloc (.cells #[.string ck, .bool ch, .string cn] 48)).heap[wr.heap.size]? = some (.cells #[.string ck, .bool ch, .string cn] 48 (0, 0)) := heap_alloc_new wr _
      have HL0 := hide L0
      have HO0 := hide (HO.out.alloc (.cells #[.string ck, .bool ch, .string cn] 48))
      have HXB := hide (hb.alloc hbs (.cells #[.string ck, .bool ch, .string cn] 48))
      have hXs : w.heap.size ≤ (wr.alloc (.cells #[.string ck, .bool ch, .string cn] 48)).heap.size := by simp; omega
      clear L0 hb
      have m1 : Hid True := ⟨trivial⟩
      have HLn := HL1
      clear HL1
      cases th
      · cases ch
        · have HE : Hid (q2 = p.drop n) := Hq2
          have HLq : Hid ((out ++ q1).length = out.length + n) := ⟨by rw [List.length_append, HLn.out]⟩
          clear hthl
          go_wp2_with (first | (go_at_call 40; refine (HPL.out _ HXB.out).mono ?_; rintro e x1 ⟨rfl, hx1⟩; have hB1 : Below w.heap.size w x1 := HXB.out.trans (hx1.mono hXs); have hB1s := hB1.size; have HL1 := hide ((hx1.block _ (Array.getElem?_eq_some_iff.1 HL0.out).1).trans HL0.out); have hp1 := cellsCh3 HL1.out; have HO1 := hide (owns_stays2 HO0.out hx1)) | (at_builtin; clear m1; refine wpList_append_R rfl _ _ rfl w.heap.size _ out rfl HO1.out a1 q1 e1 rfl (Hp1.out _ (HP.out.stays hB1)) (by have := HLn.out; omega) hB1s ?_; intro v1 y1 hO1 hg1 _; have hB2 : Below w.heap.size w y1 := hB1.grown hg1 hB1s (fun j hj => (HO1.out.lt j hj).1); have hB2s := hB2.size; have hp3 := cellsCh3 ((hg1.block wr.heap.size (Array.getElem?_eq_some_iff.1 HL1.out).1 (fun e => by have := (HO.out.lt _ e.symm).2; omega)).trans HL1.out); have HO2 := hide hO1; clear hO1 hg1 hp1))
          go_roundw
          case rel =>
            have hst : (out ++ q1) ++ flw (l.drop (k + 1)) q2 = flw l was := by
              have h0 := HST.out
              rw [← Hq1.out, rowC_no rfl, List.append_nil] at h0
              rw [HE.out]
              exact h0
            refine ⟨k + 1, q2, (out ++ q1), a2, e2, by omega, by go_num, rfl, hc2, by have := HLn.out; have := HL2.out; omega, ?_, (Hp2.out _ HP.out), HO2.out, hst, ?_, hB2⟩
            · rw [HE.out]; exact HRp.out.drop _
            · simp only [List.length_append]; have := HLn.out; have := HL2.out; omega
          case measure => simp [intOf]; omega
        · have HE : Hid (q2 = p.drop n) := Hq2
          have HLq : Hid ((out ++ q1).length = out.length + n) := ⟨by rw [List.length_append, HLn.out]⟩
          clear hthl
          go_wp2_with (first | (go_at_call 40; refine (HPL.out _ HXB.out).mono ?_; rintro e x1 ⟨rfl, hx1⟩; have hB1 : Below w.heap.size w x1 := HXB.out.trans (hx1.mono hXs); have hB1s := hB1.size; have HL1 := hide ((hx1.block _ (Array.getElem?_eq_some_iff.1 HL0.out).1).trans HL0.out); have hp1 := cellsCh3 HL1.out; have HO1 := hide (owns_stays2 HO0.out hx1)) | (at_builtin; clear m1; refine wpList_append_R rfl _ _ rfl w.heap.size _ out rfl HO1.out a1 q1 e1 rfl (Hp1.out _ (HP.out.stays hB1)) (by have := HLn.out; omega) hB1s ?_; intro v1 y1 hO1 hg1 _; have hB2 : Below w.heap.size w y1 := hB1.grown hg1 hB1s (fun j hj => (HO1.out.lt j hj).1); have hB2s := hB2.size; have hp3 := cellsCh3 ((hg1.block wr.heap.size (Array.getElem?_eq_some_iff.1 HL1.out).1 (fun e => by have := (HO.out.lt _ e.symm).2; omega)).trans HL1.out); have HO2 := hide hO1; clear hO1 hg1 hp1) | (at_builtin; refine wpList_append_R rfl _ _ rfl w.heap.size _ (out ++ q1) rfl (HO2.out.alloc _) (some ⟨y1.heap.size, 0, none⟩) [⟨ck, cn⟩] 1 rfl (newRow y1 ck cn _) (by simp [HLq.out]; omega) (by simp; omega) ?_; intro v2 y2 hO3 hg2 _; have hB3 : Below w.heap.size w y2 := (hB2.alloc hB2s _).grown hg2 (by simp; omega) (fun j hj => (HO2.out.lt j hj).1); have HO3 := hide hO3; clear hO3 hg2))
          go_roundw
          case rel =>
            have hst : ((out ++ q1) ++ [⟨ck, cn⟩]) ++ flw (l.drop (k + 1)) q2 = flw l was := by
              have h0 := HST.out
              rw [← Hq1.out, rowC_yes rfl] at h0
              rw [HE.out]
              exact h0
            refine ⟨k + 1, q2, ((out ++ q1) ++ [⟨ck, cn⟩]), a2, e2, by omega, by go_num, rfl, hc2, by have := HLn.out; have := HL2.out; omega, ?_, (Hp2.out _ HP.out), HO3.out, hst, ?_, hB3⟩
            · rw [HE.out]; exact HRp.out.drop _
            · simp only [List.length_append, List.length_cons, List.length_nil]; have := HLn.out; have := HL2.out; omega
          case measure => simp [intOf]; omega
      · cases ch
        · have hn1 : 1 ≤ q2.length := by have := hthl rfl; have := HL2.out; omega
          obtain ⟨a3, e3, q3, hq3, hsl3, hp3x, hc3⟩ := slice_dropR a2 e2 q2 hc2 hn1
          have hsl4 : ∀ W, (Instr.slice 25 (.slice a2 q2.length e2) (some (.int .i64 1)) none none).run Try.prog W = .ok (.slice a3 q3.length e3) W := hsl3
          clear hsl3
          have Hp3 := hide hp3x
          have hl3 : q3.length = q2.length - 1 := by rw [hq3, List.length_drop]
          have HE : Hid (q3 = p.drop (n + 1)) := ⟨by rw [hq3, Hq2.out, List.drop_drop]⟩
          have HL3 := hide hl3
          clear hq3 hp3x hl3
          have HLq : Hid ((out ++ q1).length = out.length + n) := ⟨by rw [List.length_append, HLn.out]⟩
          clear hthl
          go_wp2_with (first | (go_at_call 40; refine (HPL.out _ HXB.out).mono ?_; rintro e x1 ⟨rfl, hx1⟩; have hB1 : Below w.heap.size w x1 := HXB.out.trans (hx1.mono hXs); have hB1s := hB1.size; have HL1 := hide ((hx1.block _ (Array.getElem?_eq_some_iff.1 HL0.out).1).trans HL0.out); have hp1 := cellsCh3 HL1.out; have HO1 := hide (owns_stays2 HO0.out hx1)) | (at_builtin; clear m1; refine wpList_append_R rfl _ _ rfl w.heap.size _ out rfl HO1.out a1 q1 e1 rfl (Hp1.out _ (HP.out.stays hB1)) (by have := HLn.out; omega) hB1s ?_; intro v1 y1 hO1 hg1 _; have hB2 : Below w.heap.size w y1 := hB1.grown hg1 hB1s (fun j hj => (HO1.out.lt j hj).1); have hB2s := hB2.size; have hp3 := cellsCh3 ((hg1.block wr.heap.size (Array.getElem?_eq_some_iff.1 HL1.out).1 (fun e => by have := (HO.out.lt _ e.symm).2; omega)).trans HL1.out); have HO2 := hide hO1; clear hO1 hg1 hp1))
          go_roundw
          case rel =>
            have hst : (out ++ q1) ++ flw (l.drop (k + 1)) q3 = flw l was := by
              have h0 := HST.out
              rw [← Hq1.out, rowC_no rfl, List.append_nil] at h0
              rw [HE.out]
              exact h0
            refine ⟨k + 1, q3, (out ++ q1), a3, e3, by omega, by go_num, rfl, hc3, by have := HLn.out; have := HL2.out; have := HL3.out; omega, ?_, (Hp3.out _ (Hp2.out _ HP.out)), HO2.out, hst, ?_, hB2⟩
            · rw [HE.out]; exact HRp.out.drop _
            · simp only [List.length_append]; have := HLn.out; have := HL2.out; have := HL3.out; omega
          case measure => simp [intOf]; omega
        · have hn1 : 1 ≤ q2.length := by have := hthl rfl; have := HL2.out; omega
          obtain ⟨a3, e3, q3, hq3, hsl3, hp3x, hc3⟩ := slice_dropR a2 e2 q2 hc2 hn1
          have hsl4 : ∀ W, (Instr.slice 25 (.slice a2 q2.length e2) (some (.int .i64 1)) none none).run Try.prog W = .ok (.slice a3 q3.length e3) W := hsl3
          clear hsl3
          have Hp3 := hide hp3x
          have hl3 : q3.length = q2.length - 1 := by rw [hq3, List.length_drop]
          have HE : Hid (q3 = p.drop (n + 1)) := ⟨by rw [hq3, Hq2.out, List.drop_drop]⟩
          have HL3 := hide hl3
          clear hq3 hp3x hl3
          have HLq : Hid ((out ++ q1).length = out.length + n) := ⟨by rw [List.length_append, HLn.out]⟩
          clear hthl
          go_wp2_with (first | (go_at_call 40; refine (HPL.out _ HXB.out).mono ?_; rintro e x1 ⟨rfl, hx1⟩; have hB1 : Below w.heap.size w x1 := HXB.out.trans (hx1.mono hXs); have hB1s := hB1.size; have HL1 := hide ((hx1.block _ (Array.getElem?_eq_some_iff.1 HL0.out).1).trans HL0.out); have hp1 := cellsCh3 HL1.out; have HO1 := hide (owns_stays2 HO0.out hx1)) | (at_builtin; clear m1; refine wpList_append_R rfl _ _ rfl w.heap.size _ out rfl HO1.out a1 q1 e1 rfl (Hp1.out _ (HP.out.stays hB1)) (by have := HLn.out; omega) hB1s ?_; intro v1 y1 hO1 hg1 _; have hB2 : Below w.heap.size w y1 := hB1.grown hg1 hB1s (fun j hj => (HO1.out.lt j hj).1); have hB2s := hB2.size; have hp3 := cellsCh3 ((hg1.block wr.heap.size (Array.getElem?_eq_some_iff.1 HL1.out).1 (fun e => by have := (HO.out.lt _ e.symm).2; omega)).trans HL1.out); have HO2 := hide hO1; clear hO1 hg1 hp1) | (at_builtin; refine wpList_append_R rfl _ _ rfl w.heap.size _ (out ++ q1) rfl (HO2.out.alloc _) (some ⟨y1.heap.size, 0, none⟩) [⟨ck, cn⟩] 1 rfl (newRow y1 ck cn _) (by simp [HLq.out]; omega) (by simp; omega) ?_; intro v2 y2 hO3 hg2 _; have hB3 : Below w.heap.size w y2 := (hB2.alloc hB2s _).grown hg2 (by simp; omega) (fun j hj => (HO2.out.lt j hj).1); have HO3 := hide hO3; clear hO3 hg2))
          go_roundw
          case rel =>
            have hst : ((out ++ q1) ++ [⟨ck, cn⟩]) ++ flw (l.drop (k + 1)) q3 = flw l was := by
              have h0 := HST.out
              rw [← Hq1.out, rowC_yes rfl] at h0
              rw [HE.out]
              exact h0
            refine ⟨k + 1, q3, ((out ++ q1) ++ [⟨ck, cn⟩]), a3, e3, by omega, by go_num, rfl, hc3, by have := HLn.out; have := HL2.out; have := HL3.out; omega, ?_, (Hp3.out _ (Hp2.out _ HP.out)), HO3.out, hst, ?_, hB3⟩
            · rw [HE.out]; exact HRp.out.drop _
            · simp only [List.length_append, List.length_cons, List.length_nil]; have := HLn.out; have := HL2.out; have := HL3.out; omega
          case measure => simp [intOf]; omega
    · obtain rfl : k = l.length := by omega
      go_wp2_with (at_builtin; refine wpList_append_R rfl _ _ rfl w.heap.size _ out rfl HO.out pao p pc rfl (HP.out.stays hb) (by omega) hbs ?_)
      intro v1 y1 hO1 hg1 _
      have hM := HM.out
      rw [List.drop_length, flw] at hM
      have hlM : (flw l was).length = out.length + p.length := by rw [← hM, List.length_append]
      rw [hM] at hO1
      have hB1 : Below w.heap.size w y1 := hb.grown hg1 hbs (fun j hj => (HO.out.lt j hj).1)
      have HO1 := hide hO1
      clear hO1 hM
      go_wp2
      go_ret
      exact ⟨_, rfl, by rw [hlM]; exact HO1.out, hB1⟩
set_option maxRecDepth 100000 in
set_option maxHeartbeats 1000000 in
theorem iFollow_any (was : List PropV) (l : List ChV) (ao lo : Option Addr) (ca cl : Nat) (w : World) (hwl : was.length ≤ maxLen) (hll : l.length ≤ maxLen) (hca : was.length ≤ ca) (hA : PropsAt w ao was) (hC : ChsAt w lo l) (hS : SizedP 1048576 was) (hSc : SizedC 1048576 l) :
    Calls Try.prog 20 #[.slice ao was.length ca, .slice lo l.length cl] w fun e w' => ∃ v, e = .returned v ∧ w'.ownsRow w.heap.size 43 2 v (followRes was l).length (flatG PropV.cells (followRes was l)) ∧ Below w.heap.size w w' := by
  have hrr := iRowsRight_any was ao ca w hwl hA
  have hri := fun W (hW : Below w.heap.size w W) => iRisesC_any l lo cl W hll (hC.stays hW)
  have hfo := fun W (hW : Below w.heap.size w W) h1 h2 h3 => followed_any was l ao lo ca cl W h1 h2 hca h3 (hA.stays hW) (hC.stays hW)
  have HRI := hide hri
  have HFO := hide hfo
  have HNil : ∀ W : World, W.ownsRow w.heap.size 43 2 (.slice none 0 0) ([] : List PropV).length (flatG PropV.cells []) := fun W => World.ownsRow_nil _ _ _ _
  have HN := hide HNil
  have HSx := hide hS
  have HSc := hide hSc
  unfold maxLen at hwl hll
  clear hA hC hri hfo HNil hS hSc
  by_cases h400 : l.length ≤ 400
  · have hd4 : decide ((400 : Int) < (l.length : Int)) = false := by simp; omega
    cases hr : rowsRight was
    · have HF := hide (follow_no (was := was) (l := l) (fun h => by rw [hr] at h; exact absurd h.2.1 (by decide)))
      rw [hr] at hrr
      clear hr
      go_enter Try.func20, Try.ntmps20
      go_wp2_with (first | (go_at_call 9; refine hrr.mono ?_; rintro e w1 ⟨rfl, hb1⟩))
      go_ret
      exact ⟨_, rfl, by rw [HF.out]; exact HN.out _, hb1⟩
    · have HRR := hide ((rowsRight_iff was).1 hr)
      cases hx : allTo l.length (chRise l)
      · have HF := hide (follow_no (was := was) (l := l) (fun h => by rw [hx] at h; exact absurd h.2.2.1 (by decide)))
        rw [hr] at hrr
        have HX := hide hx
        clear hr hx
        go_enter Try.func20, Try.ntmps20
        go_wp2_with (first | (go_at_call 9; refine hrr.mono ?_; rintro e w1 ⟨rfl, hb1⟩) | (go_at_call 34; have h2 := HRI.out _ hb1; rw [HX.out] at h2; refine h2.mono ?_; rintro e w2 ⟨rfl, hb2⟩; have hB2 := hb1.trans (hb2.mono hb1.size); clear h2))
        go_ret
        exact ⟨_, rfl, by rw [HF.out]; exact HN.out _, hB2⟩
      · have hfl : (flw l was).length ≤ 550 := by have := flw_len l was; have := HRR.out.1; omega
        have HX := hide hx
        have HR1 := hide hr
        rw [hr] at hrr
        clear hx hr
        have HSF : Hid (SizedP 1048576 (flw l was)) := ⟨flw_sized HSx.out HSc.out⟩
        obtain ⟨F, hF⟩ : ∃ F, flw l was = F := ⟨_, rfl⟩
        rw [hF] at hfl HSF
        by_cases h150 : F.length ≤ 150
        · have HF := hide ((follow_yes h400 HR1.out HX.out (by rw [hF]; exact h150)).trans hF)
          have HFE := hide hF
          clear hF
          have hd150 : decide ((150 : Int) < (F.length : Int)) = false := by simp; omega
          go_enter Try.func20, Try.ntmps20
          go_wp2_with (first | (go_at_call 9; refine hrr.mono ?_; rintro e w1 ⟨rfl, hb1⟩) | (go_at_call 34; have h2 := HRI.out _ hb1; rw [HX.out] at h2; refine h2.mono ?_; rintro e w2 ⟨rfl, hb2⟩; have hB2 := hb1.trans (hb2.mono hb1.size); clear h2) | (go_at_call 36; have h3 := HFO.out _ hB2 HRR.out.1 h400 HRR.out.2; rw [HFE.out] at h3; refine h3.mono ?_; rintro e w3 ⟨v3, rfl, hO3, hb3⟩; have hB3 := hB2.trans (hb3.mono hB2.size); obtain ⟨a3, c3, rfl, _, hA3⟩ := owns_atR hO3; have HA3 := hide hA3; clear h3 hO3 hA3) | (go_at_call 37; refine (ownRows_any F a3 c3 w3 (by omega) HA3.out HSF.out).mono ?_; rintro e w4 ⟨v4, rfl, hO4, hb4⟩; have hB4 := hB3.trans (hb4.mono hB3.size); have HO4 := hide (owns_base2 hO4 hB3.size); clear hO4))
          go_ret
          exact ⟨_, rfl, by rw [HF.out]; exact HO4.out, hB4⟩
        · have HF := hide (follow_no (was := was) (l := l) (fun h => by rw [hF] at h; exact h150 h.2.2.2))
          have HFE := hide hF
          clear hF
          have hd150 : decide ((150 : Int) < (F.length : Int)) = true := by simp; omega
          go_enter Try.func20, Try.ntmps20
          go_wp2_with (first | (go_at_call 9; refine hrr.mono ?_; rintro e w1 ⟨rfl, hb1⟩) | (go_at_call 34; have h2 := HRI.out _ hb1; rw [HX.out] at h2; refine h2.mono ?_; rintro e w2 ⟨rfl, hb2⟩; have hB2 := hb1.trans (hb2.mono hb1.size); clear h2) | (go_at_call 36; have h3 := HFO.out _ hB2 HRR.out.1 h400 HRR.out.2; rw [HFE.out] at h3; refine h3.mono ?_; rintro e w3 ⟨v3, rfl, hO3, hb3⟩; have hB3 := hB2.trans (hb3.mono hB2.size); obtain ⟨a3, c3, rfl, _, hA3⟩ := owns_atR hO3; clear h3 hO3 hA3))
          go_ret
          exact ⟨_, rfl, by rw [HF.out]; exact HN.out _, hB3⟩
  · have HF := hide (follow_no (was := was) (l := l) (fun h => h400 h.1))
    have hd4 : decide ((400 : Int) < (l.length : Int)) = true := by simp; omega
    go_enter Try.func20, Try.ntmps20
    go_wp2
    go_ret
    exact ⟨_, rfl, by rw [HF.out]; exact HN.out _, Below.refl _ _⟩
end Go.Proofs.Ytmidembbanlleag.OpR
