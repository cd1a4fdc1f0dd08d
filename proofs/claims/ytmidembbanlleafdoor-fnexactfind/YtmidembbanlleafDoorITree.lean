/- Proves what impl.TreeRight tells. -/
import Derived.Test.YtmidembbanlleafDoorIHold
namespace Go.Proofs.YtmidembbanlleafDoor.OpR
open Go.ChangeShapes Go.WideShapes Go.ChangeAt Go.RowKit
set_option linter.unusedVariables false

theorem holds_of (l : List NodG) (n : NodG) : holdsB (kvOf l) n = nodOkI l n := by
  unfold holdsB nodOkI
  rw [kvPar_of, kvOf_len]
theorem rngM_of {l : List NodG} (h : Rng l) : RngM (kvOf l) := fun p hp => by
  obtain ⟨n, hn, rfl⟩ := List.mem_map.1 hp
  exact (h n hn).2
theorem treeI_yes {l : List NodG} (h1 : l.length ≤ 150) (h2 : RisesN l) (h3 : ∀ n ∈ l, holdsB (kvOf l) n = true) : treeRight l = true := by
  unfold treeRight
  rw [← all_okI, risesN_yes h2, decide_eq_true h1, List.all_eq_true.2 fun n hn => by rw [← holds_of]; exact h3 n hn]
  rfl
theorem treeI_no {l : List NodG} {n : NodG} (hn : n ∈ l) (h : holdsB (kvOf l) n = false) : treeRight l = false := by
  refine Bool.eq_false_iff.2 fun ht => ?_
  unfold treeRight at ht
  rw [← all_okI, Bool.and_eq_true, Bool.and_eq_true, List.all_eq_true] at ht
  have := ht.2.2 n hn
  rw [← holds_of, h] at this
  cases this

set_option maxRecDepth 100000 in
set_option maxHeartbeats 1000000 in
theorem iTree_any (l : List NodG) (ao : Option Addr) (cap : Nat) (w : World) (hl : l.length ≤ 1048576) (hg : Rng l) (hA : NodesAt w ao l) (hS : ∀ n ∈ l, Sized1 1048576 n) :
    Calls Tryd.prog 14 #[.agg #[.slice ao l.length cap]] w fun e w' => e = .returned (.bool (treeRight l)) ∧ Below w.heap.size w w' := by
  have hri := fun W (hW : Below w.heap.size w W) => iRisesN_any l ao cap W (by unfold maxLen; omega) (hA.stays hW)
  have HA : Hid (NodesAt w ao l) := ⟨hA⟩
  have HS := hide hS
  have HG := hide hg
  have H1 := hide (Box1.start w (.slice ao l.length cap) 29)
  clear hA hS hg
  by_cases h150 : l.length ≤ 150
  · have h150' : decide ((150 : Int) < (l.length : Int)) = false := by simp; omega
    cases hr : risesN l
    · have HF : Hid (treeRight l = false) := ⟨tree_no fun h => by rw [risesN_yes h.2.1] at hr; cases hr⟩
      simp only [hr] at hri
      go_enter Tryd.func14, Tryd.ntmps14
      go_wp2_with (first | (go_at_call 28; refine (hri _ H1.out.below).mono ?_; rintro e w1 ⟨rfl, hb1⟩))
      go_ret
      exact ⟨ret_bool (by rw [HF.out]), (H1.out.step hb1).below⟩
    · have HR : Hid (RisesN l) := ⟨(risesN_iff l).1 hr⟩
      have hno := fun W (hW : Below w.heap.size w W) => nodesOf_any l ao cap W hl HR.out HG.out (HA.out.stays hW)
      simp only [hr] at hri
      have HNO := hide hno
      clear hno hr
      go_enter Tryd.func14, Tryd.ntmps14
      go_wp2_with (first | (go_at_call 28; refine (hri _ H1.out.below).mono ?_; rintro e w1 ⟨rfl, hb1⟩; have hbx1 := H1.out.step hb1; have H2 := hide hbx1; have hc1 := hbx1.cell; clear hri hbx1 hb1) | (go_at_call 16; refine (HNO.out _ H2.out.below).mono ?_; rintro e w2 ⟨B, rfl, hB, hM2, hb2⟩; have hbx2 := H2.out.step hb2; have H3 := hide hbx2; have HM := hide hM2; have hc2 := hbx2.cell; clear hc1 hbx2 hb2 hM2))
      clear hc2
      go_loopw [21] (fun i wr => ∃ k : Nat, k ≤ l.length ∧ i = .int .i64 k ∧ (∀ j (h : j < l.length), j < k → holdsB (kvOf l) l[j] = true) ∧ MapAt wr B (kvOf l) ∧ Box1 w wr w.heap.size (.slice ao l.length cap) 29) (fun i _ => l.length - (intOf i).toNat)
      case atStart => exact ⟨0, by omega, rfl, fun j h hj => by omega, HM.out, H3.out⟩
      case round =>
        obtain ⟨k, hk, rfl, hal, hM, hbx⟩ := hrel
        have HL := hide hal
        have HM' := hide hM
        have HB := hide hbx
        clear hal hM
        by_cases h : k < l.length
        · obtain ⟨b, off, rfl, hlt, ho, hp⟩ := HA.out k h
          obtain ⟨c0, c1, c2, c3⟩ := ho.block (w' := wr) (hbx.below.block b hlt)
          have hi0 : (0 : Int) ≤ (k : Int) := by omega
          have hi1 : (k : Int) < (l.length : Int) := by omega
          have hmem : l[k] ∈ l := List.getElem_mem h
          have hho := fun W (hW : Below wr.heap.size wr W) => holds_any (kvOf l) B l[k] W (by rw [kvOf_len]; exact hl) (rngM_of HG.out) (HG.out _ hmem).1 (HS.out _ hmem) ((hp.stays HB.out.below).stays hW) (HM'.out.stays hW)
          unfold NodG.agg at hho
          have HMem := hide hmem
          clear ho hp hbx hmem
          cases hh : holdsB (kvOf l) l[k]
          · have HF : Hid (treeRight l = false) := ⟨treeI_no HMem.out hh⟩
            simp only [hh] at hho
            go_wp2_with (first | (go_at_call 30; refine (hho _ ((Below.refl _ _).alloc (Nat.le_refl _) _)).mono ?_; rintro e w4 ⟨rfl, hb4⟩))
            go_ret
            exact ⟨ret_bool (by rw [HF.out]), ((HB.out.step ((Below.refl _ _).alloc (Nat.le_refl _) _)).step hb4).below⟩
          · have HH := hide hh
            simp only [hh] at hho
            clear hh
            go_wp2_with (first | (go_at_call 30; refine (hho _ ((Below.refl _ _).alloc (Nat.le_refl _) _)).mono ?_; rintro e w4 ⟨rfl, hb4⟩))
            go_roundw
            case rel =>
              refine ⟨k + 1, by omega, by go_num, fun j hj hjk => ?_, (HM'.out.stays ((Below.refl _ _).alloc (Nat.le_refl _) _)).stays hb4, (HB.out.step ((Below.refl _ _).alloc (Nat.le_refl _) _)).step hb4⟩
              rcases Nat.lt_or_ge j k with h' | h'
              · exact HL.out j hj h'
              · obtain rfl : j = k := by omega
                exact HH.out
            case measure => simp [intOf]; omega
        · obtain rfl : k = l.length := by omega
          have HF : Hid (treeRight l = true) := ⟨treeI_yes h150 HR.out fun n hn => by obtain ⟨j, hj, rfl⟩ := List.getElem_of_mem hn; exact HL.out j hj hj⟩
          go_wp2
          go_ret
          exact ⟨ret_bool (by rw [HF.out]), HB.out.below⟩
  · have HF : Hid (treeRight l = false) := ⟨tree_no fun h => h150 h.1⟩
    have h150' : (150 : Int) < (l.length : Int) := by omega
    clear hri
    go_enter Tryd.func14, Tryd.ntmps14
    go_wp2
    go_ret
    exact ⟨ret_bool (by rw [HF.out]), H1.out.below⟩
end Go.Proofs.YtmidembbanlleafDoor.OpR
