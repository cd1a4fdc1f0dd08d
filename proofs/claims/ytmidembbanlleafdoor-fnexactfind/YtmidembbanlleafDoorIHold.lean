/- Proves what impl's holds, TreeRight and Above tell. -/
import Derived.Test.YtmidembbanlleafDoorIMap
import Derived.Test.YtmidembbanlleafDoorSpU
namespace Go.Proofs.YtmidembbanlleafDoor.OpR
open Go.ChangeShapes Go.WideShapes Go.ChangeAt Go.RowKit
set_option linter.unusedVariables false

/-- A variable of a node, behind calls. -/
structure Box4 (w c : World) (g : Nat) (n : NodG) : Prop where
  below : Below w.heap.size w c
  lies : c.heap[g]? = some (.cells #[.int .i64 n.id, .int .i64 n.parent, .string n.name, .slice n.pao n.props.length n.pcap] 53 (0, 0))
theorem Box4.start (w : World) (n : NodG) : Box4 w (w.alloc (.cells #[.int .i64 n.id, .int .i64 n.parent, .string n.name, .slice n.pao n.props.length n.pcap] 53)) w.heap.size n := ⟨(Below.refl _ _).alloc (Nat.le_refl _) _, heap_alloc_new w _⟩
theorem Box4.step {w c c' : World} {g : Nat} {n : NodG} (h : Box4 w c g n) (hb : Below c.heap.size c c') : Box4 w c' g n :=
  ⟨h.below.trans (hb.mono h.below.size), (hb.block _ (Array.getElem?_eq_some_iff.1 h.lies).1).trans h.lies⟩
def holdsB (m : List (Int × NodG)) (n : NodG) : Bool := isIn n.id 2 1000000 && (NameR.nmB n.name && (propsOk n.props && (abF (kvPar m) 0 (m.length + 1) n.id || abF (kvPar m) 1 (m.length + 1) n.id)))

set_option maxRecDepth 100000 in
set_option maxHeartbeats 1000000 in
theorem holds_any (m : List (Int × NodG)) (B : Nat) (n : NodG) (w : World) (hl : m.length ≤ 1048576) (hg : RngM m) (hx : In64 n.id) (hS : Sized1 1048576 n) (hP : PropsAt w n.pao n.props) (hM : MapAt w B m) :
    Calls Tryd.prog 30 #[.map (some B), n.agg] w fun e w' => e = .returned (.bool (holdsB m n)) ∧ Below w.heap.size w w' := by
  obtain ⟨hS1, hS2, hS3⟩ := hS
  have hNode : ∀ W, Calls Tryd.prog 38 #[.int .i64 n.id] W fun e w' => e = .returned (.bool (isIn n.id 2 1000000)) ∧ w' = W := fun W => (iNode_any n.id W).mono (fun e w' h => ⟨h.1, h.2.symm⟩)
  have hName := fun W => NameR.impl_any n.name W (by unfold maxLen; omega)
  have hpr := fun W (hW : Below w.heap.size w W) => iProps_any n.props n.pao n.pcap W (by unfold maxLen; omega) (hP.stays hW) hS3
  have hab := fun W y bx (hW : Below w.heap.size w W) hv => aboveIn_any m bx B n.id y W hl hg hx hv (hM.stays hW)
  have H4 := hide (Box4.start w n)
  clear hP hM hg hx
  unfold NodG.agg
  cases hq1 : isIn n.id 2 1000000
  · have HF : Hid (holdsB m n = false) := ⟨by simp [holdsB, hq1]⟩
    simp only [hq1] at hNode
    clear hpr hab
    go_enter Tryd.func30, Tryd.ntmps30
    go_wp2_with (first | (go_at_call 38; refine (hNode _).mono ?_; rintro e w1 ⟨rfl, rfl⟩))
    go_ret
    exact ⟨ret_bool (by rw [HF.out]), H4.out.below⟩
  · simp only [hq1] at hNode
    cases hq2 : NameR.nmB n.name
    · have HF : Hid (holdsB m n = false) := ⟨by simp [holdsB, hq2]⟩
      simp only [hq2] at hName
      clear hpr hab
      go_enter Tryd.func30, Tryd.ntmps30
      go_wp2_with (first | (go_at_call 38; refine (hNode _).mono ?_; rintro e w1 ⟨rfl, rfl⟩) | (go_at_call 39; refine (hName _).mono ?_; rintro e w1 ⟨rfl, rfl⟩))
      go_ret
      exact ⟨ret_bool (by rw [HF.out]), H4.out.below⟩
    · simp only [hq2] at hName
      cases hq3 : propsOk n.props
      · have HF : Hid (holdsB m n = false) := ⟨by simp [holdsB, hq3]⟩
        simp only [hq3] at hpr
        clear hab
        go_enter Tryd.func30, Tryd.ntmps30
        go_wp2_with (first | (go_at_call 38; refine (hNode _).mono ?_; rintro e w1 ⟨rfl, rfl⟩) | (go_at_call 39; refine (hName _).mono ?_; rintro e w1 ⟨rfl, rfl⟩) | (go_at_call 40; refine (hpr _ H4.out.below).mono ?_; rintro e w3 ⟨rfl, hb3⟩))
        go_ret
        exact ⟨ret_bool (by rw [HF.out]), (H4.out.step hb3).below⟩
      · simp only [hq3] at hpr
        have HAB := hide hab
        have HF : Hid (holdsB m n = (abF (kvPar m) 0 (m.length + 1) n.id || abF (kvPar m) 1 (m.length + 1) n.id)) := ⟨by simp [holdsB, hq1, hq2, hq3]⟩
        clear hab
        cases hq4 : abF (kvPar m) 0 (m.length + 1) n.id
        · have m1 : Hid True := ⟨trivial⟩
          go_enter Tryd.func30, Tryd.ntmps30
          go_wp2_with (first | (go_at_call 38; refine (hNode _).mono ?_; rintro e w1 ⟨rfl, rfl⟩) | (go_at_call 39; refine (hName _).mono ?_; rintro e w1 ⟨rfl, rfl⟩) | (go_at_call 40; refine (hpr _ H4.out.below).mono ?_; rintro e w3 ⟨rfl, hb3⟩; have H5 := hide (H4.out.step hb3); have HB3 := hide hb3; clear hb3) | (go_at_call 41; refine (above_any B _).mono ?_; rintro e w5 ⟨rfl, hv5, hb5⟩; have hbb5 := H5.out.step hb5; have H6 := hide hbb5; have HV5 := hide hv5; obtain ⟨k0, k1, k2, k3, _, _, _, _⟩ := cells4 hbb5.lies; clear hbb5 hv5 hb5) | (go_at_call 55; clear m1; refine (HAB.out _ 0 _ H6.out.below HV5.out).mono ?_; rintro e w6 ⟨rfl, hb6⟩; rw [hq4]; have hbb6 := H6.out.step hb6; have H7 := hide hbb6; have HV6 := hide ((hb6.block _ (Array.getElem?_eq_some_iff.1 HV5.out).1).trans HV5.out); clear k0 k1 k2 k3; obtain ⟨k0, k1, k2, k3, _, _, _, _⟩ := cells4 hbb6.lies; clear hbb6 hb6) | (go_at_call 55; refine (HAB.out _ 1 _ H7.out.below HV6.out).mono ?_; rintro e w7 ⟨rfl, hb7⟩))
          go_ret
          refine ⟨ret_bool ?_, (H7.out.step hb7).below⟩
          rw [HF.out, hq4]
          simp
        · go_enter Tryd.func30, Tryd.ntmps30
          go_wp2_with (first | (go_at_call 38; refine (hNode _).mono ?_; rintro e w1 ⟨rfl, rfl⟩) | (go_at_call 39; refine (hName _).mono ?_; rintro e w1 ⟨rfl, rfl⟩) | (go_at_call 40; refine (hpr _ H4.out.below).mono ?_; rintro e w3 ⟨rfl, hb3⟩; have H5 := hide (H4.out.step hb3); have HB3 := hide hb3; clear hb3) | (go_at_call 41; refine (above_any B _).mono ?_; rintro e w5 ⟨rfl, hv5, hb5⟩; have hbb5 := H5.out.step hb5; have H6 := hide hbb5; have HV5 := hide hv5; obtain ⟨k0, k1, k2, k3, _, _, _, _⟩ := cells4 hbb5.lies; clear hbb5 hv5 hb5) | (go_at_call 55; refine (HAB.out _ 0 _ H6.out.below HV5.out).mono ?_; rintro e w6 ⟨rfl, hb6⟩; rw [hq4]))
          go_ret
          refine ⟨ret_bool ?_, (H6.out.step hb6).below⟩
          rw [HF.out, hq4]
          simp
end Go.Proofs.YtmidembbanlleafDoor.OpR
