/- Proves what spec.PropOf tells. -/
import Derived.Test.YtcpgkalafkhlgafAskM
namespace Go.Proofs.Ytcpgkalafkhlgaf.OpR
open Go.ChangeShapes Go.WideShapes Go.ChangeAt Go.RowKit
set_option linter.unusedVariables false

set_option maxRecDepth 100000 in
set_option maxHeartbeats 1000000 in
theorem sProp_any (l : List NodG) (ao : Option Addr) (cap : Nat) (x : Int) (s : ByteArray) (w : World) (hl : l.length ≤ 1048576) (hA : NodesAt w ao l) (hS : ∀ n ∈ l, Sized1 1048576 n) (hs : s.size ≤ 1048576) :
    Calls Try.prog 20 #[.agg #[.slice ao l.length cap], .int .i64 x, .string s] w fun e w' => e = .returned (.string (propB l x s)) ∧ Below w.heap.size w w' := by
  have hat := fun W (hW : Below w.heap.size w W) => sAt_any l ao cap x W (by unfold maxLen; omega) (hA.stays hW)
  have htr := fun W (hW : Below w.heap.size w W) => sTree_any l ao cap W hl (hA.stays hW) hS
  have HT := hide hat
  have H1 := hide (Box1.start w (.slice ao l.length cap) 30)
  have HA := hide hA
  have HSz := hide hS
  clear hA hat hS
  by_cases h8 : s.size ≤ 8000
  · have h8' : ¬ (8000 : Int) < (s.size : Int) := by omega
    rcases at_cases l x with ⟨ea, en⟩ | ⟨j, hj, ea, en, _⟩
    · have HF : Hid (propB l x s = ⟨#[]⟩) := ⟨propB_none en⟩
      have HEA := hide ea
      clear ea en htr
      go_enter Try.func20, Try.ntmps20
      go_wp2_with (first | (go_at_call 31; refine (HT.out _ H1.out.below).mono ?_; rintro e w1 ⟨rfl, hb1⟩; rw [HEA.out]))
      go_ret
      exact ⟨by rw [HF.out]; rfl, (H1.out.step hb1).below⟩
    · have HEA := hide ea
      have hj0 : (0 : Int) ≤ (j : Int) := by omega
      have hj1 : (j : Int) < (l.length : Int) := by omega
      have hj2 : decide ((j : Int) < 0) = false := by simp
      cases ht : treeRight l
      · have HF : Hid (propB l x s = ⟨#[]⟩) := ⟨propB_wrong ht⟩
        simp only [ht] at htr
        clear ea en
        go_enter Try.func20, Try.ntmps20
        go_wp2_with (first | (go_at_call 31; refine (HT.out _ H1.out.below).mono ?_; rintro e w1 ⟨rfl, hb1⟩; rw [HEA.out]; have hbx := H1.out.step hb1; have H2 := hide hbx; have hc := hbx.cell; clear hbx hb1) | (go_at_call 23; refine (htr _ H2.out.below).mono ?_; rintro e w2 ⟨rfl, hb2⟩))
        go_ret
        exact ⟨by rw [HF.out]; rfl, (H2.out.step hb2).below⟩
      · simp only [ht] at htr
        obtain ⟨n, hn⟩ : ∃ n, l[j] = n := ⟨_, rfl⟩
        have HF : Hid (propB l x s = valOf s n.props) := ⟨by rw [propB_some h8 ht en, hn]⟩
        have HN := hide hn
        have hnl : n.props.length ≤ 1048576 := by rw [← hn]; exact (HSz.out _ (List.getElem_mem hj)).2.1
        obtain ⟨b, off, rfl, hlt, ho, hP⟩ := HA.out j hj
        rw [hn] at ho hP
        have HO := hide ho
        have HP := hide hP
        clear ea en ht hn ho hP
        go_enter Try.func20, Try.ntmps20
        go_wp2_with (first | (go_at_call 31; refine (HT.out _ H1.out.below).mono ?_; rintro e w1 ⟨rfl, hb1⟩; rw [HEA.out]; have hbx := H1.out.step hb1; have H2 := hide hbx; have hc := hbx.cell; clear hbx hb1) | (go_at_call 23; refine (htr _ H2.out.below).mono ?_; rintro e w2 ⟨rfl, hb2⟩; have hbx := H2.out.step hb2; have H3 := hide hbx; have hc2 := hbx.cell; obtain ⟨c0, c1, c2, c3⟩ := HO.out.block (hbx.below.block b hlt); clear hbx hb2 hc))
        clear hc2 c0 c1 c2 c3 htr
        go_loopw [9] (fun i wr => ∃ k : Nat, k ≤ n.props.length ∧ i = .int .i64 k ∧ valOf s (n.props.drop k) = valOf s n.props ∧ wr = w2) (fun i _ => n.props.length - (intOf i).toNat)
        case atStart => exact ⟨0, by omega, rfl, by rw [List.drop_zero], rfl⟩
        case round =>
          obtain ⟨k, hk, rfl, hv, rfl⟩ := hrel
          have HV := hide hv
          clear hv
          by_cases h : k < n.props.length
          · obtain ⟨b1, off1, e1, hlt1, q0, q1⟩ := (HP.out.stays H3.out.below) k h
            rw [e1]
            have hi0 : (0 : Int) ≤ (k : Int) := by omega
            have hi1 : (k : Int) < (n.props.length : Int) := by omega
            obtain ⟨p, hp⟩ : ∃ p, n.props[k] = p := ⟨_, rfl⟩
            rw [hp] at q0 q1
            have HPe := hide hp
            clear hp e1
            by_cases he : p.key = s
            · have HG : Hid (valOf s n.props = p.value) := ⟨by rw [← HV.out, valOf_hit h (by rw [HPe.out]; exact he), HPe.out]⟩
              have b0 : (p.key.toList == s.toList) = true := by rw [he]; exact beq_self_eq_true _
              clear he
              go_wp2
              go_ret
              exact ⟨by rw [HF.out, HG.out]; rfl, H3.out.below⟩
            · have HG : Hid (valOf s (n.props.drop (k + 1)) = valOf s n.props) := ⟨by rw [← HV.out, valOf_miss h (by rw [HPe.out]; exact he)]⟩
              have b0 : (p.key.toList == s.toList) = false := beq_eq_false_iff_ne.2 fun e => he (str_inj e)
              clear he
              go_wp2
              go_roundw
              case rel => exact ⟨k + 1, by omega, by go_num, HG.out, trivial⟩
              case measure => simp [intOf]; omega
          · obtain rfl : k = n.props.length := by omega
            have HG : Hid (valOf s n.props = ⟨#[]⟩) := ⟨by rw [← HV.out, valOf_end]⟩
            go_wp2
            go_ret
            exact ⟨by rw [HF.out, HG.out]; rfl, H3.out.below⟩
  · have h8' : (8000 : Int) < (s.size : Int) := by omega
    have HF : Hid (propB l x s = ⟨#[]⟩) := ⟨propB_long h8⟩
    clear htr
    go_enter Try.func20, Try.ntmps20
    go_wp2_with (first | (go_at_call 31; refine (HT.out _ H1.out.below).mono ?_; rintro e w1 ⟨rfl, hb1⟩))
    go_ret
    exact ⟨by rw [HF.out]; rfl, (H1.out.step hb1).below⟩
end Go.Proofs.Ytcpgkalafkhlgaf.OpR
