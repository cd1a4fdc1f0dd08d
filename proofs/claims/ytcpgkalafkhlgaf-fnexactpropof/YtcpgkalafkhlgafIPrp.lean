/- Proves what impl.PropOf tells. -/
import Derived.Test.YtcpgkalafkhlgafAskM
import Derived.Test.YtcpgkalafkhlgafITree
import Derived.Test.YtcpgkalafkhlgafClone
namespace Go.Proofs.Ytcpgkalafkhlgaf.OpR
open Go.ChangeShapes Go.WideShapes Go.ChangeAt Go.RowKit
set_option linter.unusedVariables false

section
variable (w : World) {ops : Array Oper} {rest : List Oper} {o : Oper} {a : Act} {Q : Exit → Act → World → Prop}
/-- 'nodes[x]', where there is one. -/
theorem wpList_get_some (hg : o.guard = none) (m x : Operand) (hop : o.op = Op.lookup 45 m x false) (B : Nat) (l : List (Int × NodG)) (hm : a.eval m = .map (some B)) (hM : MapAt w B l)
    (key : Int) (hk : -9223372036854775808 ≤ key ∧ key ≤ 9223372036854775807) (hx : a.eval x = .int .i64 key) (n : NodG) (hn : kvAt l key = some n)
    (hK : wpList Try.prog ops Q rest (a.put o.dst (.agg #[.int .i64 n.id, .int .i64 n.parent, .string n.name, .slice n.pao n.props.length n.pcap])) w) :
    wpList Try.prog ops Q (o :: rest) a w := by
  refine wpList_plain hg fun K' hK' => ?_
  obtain ⟨v, ps, hrun, hv⟩ := World.ownsMap.lookup hM lawK Try.underlying45 (zeroN w) (zd := .held _) (zp := []) rfl (key_i64 hk)
  rw [kvD_some hn] at hv
  simp only [rdN, Option.some.injEq, Prod.mk.injEq, DataW.held.injEq] at hv
  obtain ⟨rfl, _⟩ := hv
  unfold Oper.wp
  simp [execOp, hop, hm, hx, hrun, Result.andThen]
  exact hK' _ _ hK
/-- .. and where there is none. -/
theorem wpList_get_none (hg : o.guard = none) (m x : Operand) (hop : o.op = Op.lookup 45 m x false) (B : Nat) (l : List (Int × NodG)) (hm : a.eval m = .map (some B)) (hM : MapAt w B l)
    (key : Int) (hk : -9223372036854775808 ≤ key ∧ key ≤ 9223372036854775807) (hx : a.eval x = .int .i64 key) (hn : kvAt l key = none)
    (hK : wpList Try.prog ops Q rest (a.put o.dst (.agg #[.int .i64 0, .int .i64 0, .string ⟨#[]⟩, .slice none 0 0])) w) :
    wpList Try.prog ops Q (o :: rest) a w := by
  refine wpList_plain hg fun K' hK' => ?_
  obtain ⟨v, ps, hrun, hv⟩ := World.ownsMap.lookup hM lawK Try.underlying45 (zeroN w) (zd := .held _) (zp := []) rfl (key_i64 hk)
  rw [kvD_none hn] at hv
  simp only [rdN, Option.some.injEq, Prod.mk.injEq, DataW.held.injEq] at hv
  obtain ⟨rfl, _⟩ := hv
  unfold Oper.wp
  simp [execOp, hop, hm, hx, hrun, Result.andThen]
  exact hK' _ _ hK
end

set_option maxRecDepth 100000 in
set_option maxHeartbeats 1000000 in
theorem iProp_any (l : List NodG) (ao : Option Addr) (cap : Nat) (x : Int) (s : ByteArray) (w : World) (hl : l.length ≤ 1048576) (hg : Rng l) (hx : In64 x) (hA : NodesAt w ao l) (hS : ∀ n ∈ l, Sized1 1048576 n) (hs : s.size ≤ 1048576) :
    Calls Try.prog 21 #[.agg #[.slice ao l.length cap], .int .i64 x, .string s] w fun e w' => e = .returned (.string (propB l x s)) ∧ Below w.heap.size w w' := by
  have htr := fun W (hW : Below w.heap.size w W) => iTree_any l ao cap W hl hg (hA.stays hW) hS
  have H1 := hide (Box1.start w (.slice ao l.length cap) 30)
  have HA := hide hA
  have HG := hide hg
  have HX := hide hx
  have HSz := hide hS
  clear hA hS hg hx
  by_cases h8 : s.size ≤ 8000
  · have h8' : ¬ (8000 : Int) < (s.size : Int) := by omega
    cases ht : treeRight l
    · have HF : Hid (propB l x s = ⟨#[]⟩) := ⟨propB_wrong ht⟩
      simp only [ht] at htr
      go_enter Try.func21, Try.ntmps21
      go_wp2_with (first | (go_at_call 26; refine (htr _ H1.out.below).mono ?_; rintro e w1 ⟨rfl, hb1⟩))
      go_ret
      exact ⟨by rw [HF.out]; rfl, (H1.out.step hb1).below⟩
    · have HTR := hide ((treeR_iff l).1 ht)
      have hno := fun W (hW : Below w.heap.size w W) => nodesOf_any l ao cap W hl HTR.out.2.1 HG.out (HA.out.stays hW)
      have HNO := hide hno
      simp only [ht] at htr
      clear hno
      cases hn : nodOf l x with
      | none =>
        have HF : Hid (propB l x s = ⟨#[]⟩) := ⟨propB_none hn⟩
        have HN : Hid (kvAt (kvOf l) x = none) := ⟨by rw [kvAt_of]; exact hn⟩
        have hfd : ∀ W, (Instr.field 50 (.agg #[.int .i64 0, .int .i64 0, .string ⟨#[]⟩, .slice none 0 0]) 3).run Try.prog W = .ok (.slice none 0 0) W := fun W => by kernel_rfl
        clear ht hn
        go_enter Try.func21, Try.ntmps21
        go_wp2_with (first | (go_at_call 26; refine (htr _ H1.out.below).mono ?_; rintro e w1 ⟨rfl, hb1⟩; have hbx := H1.out.step hb1; have H2 := hide hbx; have hc := hbx.cell; clear hbx hb1) | (go_at_call 27; refine (HNO.out _ H2.out.below).mono ?_; rintro e w2 ⟨B, rfl, hB, hM2, hb2⟩; have hbx := H2.out.step hb2; have H3 := hide hbx; have HM := hide hM2; clear hbx hb2 hM2 hc) | (at_lookup; refine wpList_get_none _ rfl _ _ rfl B (kvOf l) rfl HM.out x HX.out rfl HN.out ?_))
        clear htr hfd
        go_loopw [23] (fun i wr => i = .int .i64 0 ∧ wr = w2) (fun i _ => 0)
        case atStart => exact ⟨rfl, rfl⟩
        case round =>
          obtain ⟨rfl, rfl⟩ := hrel
          go_wp2
          go_ret
          exact ⟨by rw [HF.out]; rfl, H3.out.below⟩
      | some n =>
        have HF : Hid (propB l x s = valOf s n.props) := ⟨propB_some h8 ht hn⟩
        have HN : Hid (kvAt (kvOf l) x = some n) := ⟨by rw [kvAt_of]; exact hn⟩
        have hm := (nodOf_some hn).1
        have hnl : n.props.length ≤ 1048576 := (HSz.out _ hm).2.1
        have HVs := hide (HSz.out _ hm).2.2
        have HP := hide (HA.out.props n hm)
        have hfd : ∀ W, (Instr.field 50 (.agg #[.int .i64 n.id, .int .i64 n.parent, .string n.name, .slice n.pao n.props.length n.pcap]) 3).run Try.prog W = .ok (.slice n.pao n.props.length n.pcap) W := fun W => by kernel_rfl
        clear ht hn hm
        go_enter Try.func21, Try.ntmps21
        go_wp2_with (first | (go_at_call 26; refine (htr _ H1.out.below).mono ?_; rintro e w1 ⟨rfl, hb1⟩; have hbx := H1.out.step hb1; have H2 := hide hbx; have hc := hbx.cell; clear hbx hb1) | (go_at_call 27; refine (HNO.out _ H2.out.below).mono ?_; rintro e w2 ⟨B, rfl, hB, hM2, hb2⟩; have hbx := H2.out.step hb2; have H3 := hide hbx; have HM := hide hM2; clear hbx hb2 hM2 hc) | (at_lookup; refine wpList_get_some _ rfl _ _ rfl B (kvOf l) rfl HM.out x HX.out rfl n HN.out ?_))
        clear htr hfd
        go_loopw [23] (fun i wr => ∃ k : Nat, k ≤ n.props.length ∧ i = .int .i64 k ∧ valOf s (n.props.drop k) = valOf s n.props ∧ Below w.heap.size w wr) (fun i _ => n.props.length - (intOf i).toNat)
        case atStart => exact ⟨0, by omega, rfl, by rw [List.drop_zero], H3.out.below⟩
        case round =>
          obtain ⟨k, hk, rfl, hv, hb⟩ := hrel
          have HV := hide hv
          clear hv
          by_cases h : k < n.props.length
          · obtain ⟨b1, off1, e1, hlt1, q0, q1⟩ := (HP.out.stays hb) k h
            rw [e1]
            have hi0 : (0 : Int) ≤ (k : Int) := by omega
            have hi1 : (k : Int) < (n.props.length : Int) := by omega
            have hvs := (HVs.out _ (List.getElem_mem h)).2
            obtain ⟨p, hp⟩ : ∃ p, n.props[k] = p := ⟨_, rfl⟩
            rw [hp] at q0 q1 hvs
            have HPe := hide hp
            have hC := fun W => NumR.clone_any p.value W (by omega)
            have HB := hide hb
            clear hp e1 hb
            by_cases he : p.key = s
            · have HG : Hid (valOf s n.props = p.value) := ⟨by rw [← HV.out, valOf_hit h (by rw [HPe.out]; exact he), HPe.out]⟩
              have b0 : (p.key.toList == s.toList) = true := by rw [he]; exact beq_self_eq_true _
              clear he
              go_wp2_with (first | (go_at_call 38; refine (hC _).mono ?_; rintro e w5 ⟨rfl, hb5⟩))
              go_ret
              exact ⟨by rw [HF.out, HG.out]; rfl, (HB.out.alloc HB.out.size _).trans (hb5.mono (by have := HB.out.size; simp; omega))⟩
            · have HG : Hid (valOf s (n.props.drop (k + 1)) = valOf s n.props) := ⟨by rw [← HV.out, valOf_miss h (by rw [HPe.out]; exact he)]⟩
              have b0 : (p.key.toList == s.toList) = false := beq_eq_false_iff_ne.2 fun e => he (str_inj e)
              clear he hC
              go_wp2
              go_roundw
              case rel => exact ⟨k + 1, by omega, by go_num, HG.out, HB.out.alloc HB.out.size _⟩
              case measure => simp [intOf]; omega
          · obtain rfl : k = n.props.length := by omega
            have HG : Hid (valOf s n.props = ⟨#[]⟩) := ⟨by rw [← HV.out, valOf_end]⟩
            go_wp2
            go_ret
            exact ⟨by rw [HF.out, HG.out]; rfl, hb⟩
  · have h8' : (8000 : Int) < (s.size : Int) := by omega
    have HF : Hid (propB l x s = ⟨#[]⟩) := ⟨propB_long h8⟩
    clear htr
    go_enter Try.func21, Try.ntmps21
    go_wp2
    go_ret
    exact ⟨by rw [HF.out]; rfl, H1.out.below⟩
end Go.Proofs.Ytcpgkalafkhlgaf.OpR
