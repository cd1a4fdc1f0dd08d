/- Proves what impl.Children tells. -/
import Derived.Test.YtcpgkalafkhlgafKidM
import Derived.Test.YtcpgkalafkhlgafIRow
import Derived.Test.YtcpgkalafkhlgafITree
import Derived.Test.YtcpgkalafkhlgafTrB
namespace Go.Proofs.Ytcpgkalafkhlgaf.OpR
open Go.ChangeShapes Go.WideShapes Go.ChangeAt Go.RowKit
set_option linter.unusedVariables false

def kidIds (l : List NodG) (x : Int) : List Int := if treeRight l = true then (kids l x).map NodG.id else []
theorem kidIds_no {l : List NodG} {x : Int} (h : treeRight l = false) : kidIds l x = [] := by unfold kidIds; rw [h]; rfl
theorem kidIds_yes {l : List NodG} {x : Int} (h : treeRight l = true) : kidIds l x = (kids l x).map NodG.id := by unfold kidIds; rw [if_pos h]
set_option maxRecDepth 100000 in
set_option maxHeartbeats 1000000 in
theorem iChildren_any (l : List NodG) (ao : Option Addr) (cap : Nat) (x : Int) (w : World) (hl : l.length ≤ 1048576) (hg : Rng l) (hA : NodesAt w ao l) (hS : ∀ n ∈ l, Sized1 1048576 n) :
    Calls Try.prog 10 #[.agg #[.slice ao l.length cap], .int .i64 x] w fun e w' => ∃ v, e = .returned v ∧ IntRow w' w.heap.size v (kidIds l x) ∧ Below w.heap.size w w' := by
  have htr := fun W (hW : Below w.heap.size w W) => iTree_any l ao cap W hl hg (hA.stays hW) hS
  have H1 := hide (Box1.start w (.slice ao l.length cap) 30)
  have HA := hide hA
  have HG := hide hg
  clear hA hS hg
  cases ht : treeRight l
  · have HF : Hid (kidIds l x = []) := ⟨kidIds_no ht⟩
    simp only [ht] at htr
    go_enter Try.func10, Try.ntmps10
    go_wp2_with (first | (go_at_call 26; refine (htr _ H1.out.below).mono ?_; rintro e w1 ⟨rfl, hb1⟩))
    go_ret
    exact ⟨_, rfl, by rw [HF.out]; exact World.ownsRow_nil _ _ _ _, (H1.out.step hb1).below⟩
  · have HTR := hide ((treeR_iff l).1 ht)
    have HF := hide (kidIds_yes (x := x) ht)
    have hl150 : l.length ≤ 150 := HTR.out.1
    have hno := fun W (hW : Below w.heap.size w W) => nodesOf_any l ao cap W hl HTR.out.2.1 HG.out (HA.out.stays hW)
    have HNO := hide hno
    simp only [ht] at htr
    obtain ⟨s, hs⟩ : ∃ s, kids l x = s := ⟨_, rfl⟩
    have hsl : s.length ≤ 150 := by rw [← hs]; exact Nat.le_trans (kids_len l x) hl150
    have HKs := hide hs
    clear hno ht hs
    go_enter Try.func10, Try.ntmps10
    go_wp2_with (first | (go_at_call 26; refine (htr _ H1.out.below).mono ?_; rintro e w1 ⟨rfl, hb1⟩; have hbx := H1.out.step hb1; have H2 := hide hbx; have hc := hbx.cell; clear hbx hb1) | (go_at_call 27; refine (HNO.out _ H2.out.below).mono ?_; rintro e w2 ⟨B, rfl, hB, hM2, hb2⟩; have hbx := H2.out.step hb2; have H3 := hide hbx; have hkd := iKids_any (kvOf l) B x w2 (by rw [kvOf_len]; exact hl150) hM2; have HKD := hide hkd; clear hbx hb2 hM2 hc hkd) | (go_at_call 28; refine HKD.out.mono ?_; rintro e w3 ⟨v3, s3, rfl, ho3, ⟨xs3, ha3, hp3⟩, hr3, hb3⟩; obtain rfl : s3 = s := (kids_is HTR.out.2.1 ha3 hp3 ho3).trans HKs.out; obtain ⟨a3, c3, rfl, _, hA3⟩ := owns_atN hr3; have HA3 := hide hA3; have H4 := hide (H3.out.step hb3); clear ho3 ha3 hp3 hr3 hA3 hb3 HKD))
    have hw3 := H4.out.below.size
    go_loopw [5, 16] (fun v i wr => ∃ k : Nat, k ≤ s3.length ∧ i = .int .i64 k ∧ IntRow wr w3.heap.size v ((s3.take k).map NodG.id) ∧ Below w3.heap.size w3 wr) (fun _ i _ => s3.length - (intOf i).toNat)
    case atStart => exact ⟨0, by omega, rfl, World.ownsRow_nil _ _ _ _, Below.refl _ _⟩
    case round =>
      obtain ⟨k, hk, rfl, hR, hb⟩ := hrel
      have HR := hide hR
      have HB := hide hb
      by_cases h : k < s3.length
      · obtain ⟨b, off, rfl, hlt, ho⟩ := HA3.out k h
        obtain ⟨c0, c1, c2, c3⟩ := ho.block (w' := wr) (hb.block b hlt)
        obtain ⟨n, hn⟩ : ∃ n, s3[k] = n := ⟨_, rfl⟩
        rw [hn] at c0 c1 c2 c3
        have hi0 : (0 : Int) ≤ (k : Int) := by omega
        have hi1 : (k : Int) < (s3.length : Int) := by omega
        have HT : Hid ((s3.take (k + 1)).map NodG.id = (s3.take k).map NodG.id ++ [n.id]) := ⟨by rw [List.take_add_one, List.getElem?_eq_getElem h, hn]; simp⟩
        clear ho hR hb hn
        go_wp2_with (first | (at_builtin; refine wpList_append_I rfl _ _ rfl w3.heap.size u5 ((s3.take k).map NodG.id) rfl ((HR.out.stays ((Below.refl _ _).alloc (Nat.le_refl _) _)).stays ((Below.refl _ _).alloc (Nat.le_refl _) _)) ⟨wr.heap.size + 1, 0, none⟩ [n.id] 1 rfl (by have := newsI (wr.alloc (.cells #[.int .i64 n.id, .int .i64 n.parent, .string n.name, .slice n.pao n.props.length n.pcap] 50)) n.id 2; simpa using this) (by simp; omega) (by have := HB.out.size; simp; omega) ?_; intro v5 w5 ho5 hg5))
        have hB5 : Below w3.heap.size w3 w5 := ((HB.out.alloc HB.out.size _).alloc (by have := HB.out.size; simp; omega) _).grown hg5 (by have := HB.out.size; simp; omega) (fun k e => (HR.out.lt k e).1)
        go_roundw
        case rel => exact ⟨k + 1, by omega, by go_num, by rw [HT.out]; exact ho5, hB5⟩
        case measure => simp [intOf]; omega
      · obtain rfl : k = s3.length := by omega
        have HE : Hid (kidIds l x = (s3.take s3.length).map NodG.id) := ⟨by rw [HF.out, HKs.out, List.take_length]⟩
        go_wp2
        go_ret
        exact ⟨_, rfl, by rw [HE.out]; exact owns_lower HR.out hw3, H4.out.below.trans (HB.out.mono hw3)⟩
end Go.Proofs.Ytcpgkalafkhlgaf.OpR
