/- Proves the walk of the law FnExactUnder. -/
import Derived.Test.YtcpgkalafkhlgafTrLaw
import Derived.Test.YtcpgkalafkhlgafSUnd
import Derived.Test.YtcpgkalafkhlgafIUndW
namespace Go.Proofs.Ytcpgkalafkhlgaf.OpR
open Go.ChangeShapes Go.WideShapes Go.ChangeAt Go.RowKit
set_option linter.unusedVariables false

theorem undB_alike {l d : List NodG} (h : d.map NodG.bare = l.map NodG.bare) (x : Int) : undB d x = undB l x := by
  have e : ∀ l : List NodG, undB (l.map NodG.bare) x = undB l x := fun l => by
    have hn : (nodOf (l.map NodG.bare) x).isSome = (nodOf l x).isSome := by rw [nodOf_bare]; simp
    have hs : sbL (l.map NodG.bare) x ∘ NodG.bare = sbL l x := by
      funext n
      show (decide (n.bare.id ≠ x) && abF (par (l.map NodG.bare)) x ((l.map NodG.bare).length + 1) n.bare.id) = _
      rw [par_bare, List.length_map]
      rfl
    unfold undB undN placeB
    rw [tree_bare, hn, List.countP_map, hs]
  rw [← e d, h, e]
set_option maxRecDepth 100000 in
set_option maxHeartbeats 1000000 in
theorem law_under (w : World) (ao : Option Addr) (cap : Nat) (l : List NodG) (x : Int) (hC : CameTree w ao l) (hx : (Lit.int .i64 x).wf = true) :
    Calls Try.prog 5 #[.agg #[.slice ao l.length cap], .int .i64 x] w fun e w' => e = .returned (.bool true) ∧ Below w.heap.size w w' := by
  obtain ⟨hl, hA, hS, hG⟩ := hC
  have hsz := fun W (hW : Below w.heap.size w W) => szTree_any l ao cap W hl (hA.stays hW) hS
  have HSZ := hide hsz
  have HA := hide hA
  have HG := hide hG
  have HB0 := hide (Box1.start w (.slice ao l.length cap) 24)
  have m1 : Hid True := ⟨trivial⟩
  have m2 : Hid True := ⟨trivial⟩
  clear hsz hA hS hG hl hx
  obtain ⟨r, hr⟩ : ∃ r, undB l x = r := ⟨_, rfl⟩
  go_enter Try.func5, Try.ntmps5
  go_wp2_with (first | (go_at_call 7; refine (HSZ.out _ HB0.out.below).mono ?_; rintro e w1 ⟨m, rfl, hm0, hm1, hm2, hb1⟩; have HM := hide hm2; have hbx := HB0.out.step hb1; have HB1 := hide hbx; have hc := hbx.cell; clear hm2 hb1 hbx) | (go_at_call 9; clear m1; obtain ⟨hl2, hs2⟩ := HM.out (by omega); have HS2 := hide hs2; clear hs2; refine (toTree_any l ao cap w1 hl2 (HA.out.stays HB1.out.below) (fun n hn => (HS2.out n hn).2.1)).mono ?_; rintro e w2 ⟨d2, g2, rfl, hd2, hbr2, hb2⟩; have h3 := sUnder_any d2 _ d2.length x w2 (by rw [bare_len hbr2]; exact hl2) hd2.nodesAt (sized_alike hbr2 HS2.out); rw [undB_alike hbr2, hr] at h3; have H3 := hide h3; have hbx := HB1.out.step hb2; have HB2 := hide hbx; clear hc hd2 hbr2 hb2 h3; have hc := hbx.cell; clear hbx) | (go_at_call 18; refine H3.out.mono ?_; rintro e w3 ⟨rfl, hb3⟩; have hbx := HB2.out.step hb3; have HB3 := hide hbx; clear hc hb3; have hc := hbx.cell; clear hbx) | (go_at_call 9; clear m2; refine (toTree_any l ao cap w3 hl2 (HA.out.stays HB3.out.below) (fun n hn => (HS2.out n hn).2.1)).mono ?_; rintro e w4 ⟨d4, g4, rfl, hd4, hbr4, hb4⟩; have HD4 := hide hd4; have HR4 := hide hbr4; have hbx := HB3.out.step hb4; have HB4 := hide hbx; clear hc hd4 hbr4 hb4; have hc := hbx.cell; clear hbx) | (go_at_call 19; have h5 := iUnder_any d4 _ d4.length x _ (by rw [bare_len HR4.out]; exact hl2) (rng_alike HR4.out HG.out) (HD4.out.stays ((Below.refl _ _).alloc (Nat.le_refl _) (.cells #[.slice (some ⟨g4, 0, none⟩) d4.length d4.length] 30))).nodesAt (sized_alike HR4.out HS2.out); rw [undB_alike HR4.out, hr] at h5; refine h5.mono ?_; clear h5; rintro e w5 ⟨rfl, hb5⟩; have hbx := (HB4.out.other (.cells #[.slice (some ⟨g4, 0, none⟩) d4.length d4.length] 30)).step hb5; have HB5 := hide hbx; have hby := (Box1.start w4 (.slice (some ⟨g4, 0, none⟩) d4.length d4.length) 30).step hb5; have HX5 := hide hby; have HD5 := hide ((HD4.out.stays ((Below.refl _ _).alloc (Nat.le_refl _) (.cells #[.slice (some ⟨g4, 0, none⟩) d4.length d4.length] 30))).stays hb5); clear hc hb5; have hc := hbx.cell; have hcx := hby.cell; clear hbx hby))
  · go_ret
    exact ⟨rfl, HB1.out.below⟩
  · go_region_with (first | (go_at_call 9; refine (toTree_any l ao cap _ hl2 (HA.out.stays HB5.out.drew.below) (fun n hn => (HS2.out n hn).2.1)).mono ?_; rintro e w6 ⟨d6, g6, rfl, hd6, hbr6, hb6⟩; have HD6 := hide hd6; have HR6 := hide hbr6; have HB6 := hide (HB5.out.drew.step hb6); have HD5' := hide (HD5.out.stays ((Below.refl _ _).drew.trans hb6)); have hcx6 := (HX5.out.drew.step hb6).cell; clear hd6 hbr6 hb6) | (go_at_call 12; refine (eqTree_same d4 d6 _ _ _ _ w6 (HR6.out.trans HR4.out.symm) (by rw [bare_len HR4.out]; unfold maxLen; omega) (fun n hn => by have := (sized_alike HR4.out HS2.out n hn).2.1; unfold maxLen; omega) HD5'.out.nodesAt HD6.out.nodesAt).mono ?_; rintro e w7 ⟨rfl, hb7⟩))
    all_goals (
      go_wp2
      go_ret
      exact ⟨rfl, (HB6.out.step hb7).below⟩)
end Go.Proofs.Ytcpgkalafkhlgaf.OpR
