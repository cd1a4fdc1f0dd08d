/- Proves what impl.Under tells. -/
import Derived.Test.YtcpgkalafkhlgafIUnd
import Derived.Test.YtcpgkalafkhlgafITree
namespace Go.Proofs.Ytcpgkalafkhlgaf.OpR
open Go.ChangeShapes Go.WideShapes Go.ChangeAt Go.RowKit Go.Shelf
set_option linter.unusedVariables false
attribute [local go_sem] Oper.semAt_some

set_option maxRecDepth 100000 in
set_option maxHeartbeats 1000000 in
theorem iUnder_any (l : List NodG) (ao : Option Addr) (cap : Nat) (x : Int) (w : World) (hl : l.length ≤ 1048576) (hg : Rng l) (hA : NodesAt w ao l) (hS : ∀ n ∈ l, Sized1 1048576 n) :
    Calls Try.prog 19 #[.agg #[.slice ao l.length cap], .int .i64 x] w fun e w' => e = .returned (.int .i64 (undB l x : Int)) ∧ Below w.heap.size w w' := by
  have htr := fun W (hW : Below w.heap.size w W) => iTree_any l ao cap W hl hg (hA.stays hW) hS
  have H1 := hide (Box1.start w (.slice ao l.length cap) 30)
  have HA := hide hA
  have HG := hide hg
  clear hA hS hg
  cases ht : treeRight l
  · have HF : Hid (undB l x = 0) := ⟨by simp [undB, ht]⟩
    simp only [ht] at htr
    go_enter Try.func19, Try.ntmps19
    go_wp2_with (first | (go_at_call 26; refine (htr _ H1.out.below).mono ?_; rintro e w1 ⟨rfl, hb1⟩))
    go_ret
    exact ⟨by rw [HF.out]; rfl, (H1.out.step hb1).below⟩
  · have HTR := hide ((treeR_iff l).1 ht)
    have HF := hide (undB_right ht x)
    have hno := fun W (hW : Below w.heap.size w W) => nodesOf_any l ao cap W hl HTR.out.2.1 HG.out (HA.out.stays hW)
    have HNO := hide hno
    simp only [ht] at htr
    clear hno ht
    refine (callsIn_wide (n := 3)).1 ?_
    refine callsIn_of_wp_marks Try.func19 rfl trivial ?_ rfl
    simp only [Try.ntmps19, List.size_toArray, List.length_cons, List.length_nil, Nat.reduceAdd, Nat.reduceSub, Array.replicate_succ, Array.replicate_zero, List.push_toArray, List.append_toArray, List.nil_append, List.cons_append]
    gi_wp2_with (first | (refine ⟨trivial, ?_⟩; gi_at_call 26; refine (callsIn_wide.2 (htr _ H1.out.below)).mono ?_; rintro e w1 ⟨rfl, hb1⟩; have hbx := H1.out.step hb1; have H2 := hide hbx; have H3 := hide (hbx.step ((Below.refl _ _).alloc (Nat.le_refl _) (.cells #[.int .i64 0] 2))); have hc := H3.out.cell; clear hbx hb1) | (refine ⟨trivial, ?_⟩; gi_at_call 27; refine (callsIn_wide.2 (HNO.out _ H3.out.below)).mono ?_; rintro e w2 ⟨B, rfl, hB, hM2, hb2⟩; have HM2 := hide hM2; have HB2 := hide hb2; have HBB := hide hB; clear hb2 hM2 hc hB) | (refine ⟨trivial, ?_⟩; gi_at_call 37; refine (callsIn_wide.2 (below_any B x w2)).mono ?_; rintro e w3 ⟨rfl, hm3, hy3, hb3⟩; have HM3 := hide hm3; have HY3 := hide hy3; have HB3 := hide hb3; clear hm3 hy3 hb3))
    have hBw1 := H2.out.below
    have hz1 := hBw1.size
    have hB1 : Below w.heap.size w (w1.alloc (.cells #[.int .i64 0] 2)) := H3.out.below
    have hB2 : Below w.heap.size w w2 := hB1.trans (HB2.out.mono hB1.size)
    have hB3 : Below w.heap.size w w3 := hB2.trans (HB3.out.mono hB2.size)
    have hs2 : w1.heap.size + 1 ≤ w2.heap.size := by have := HB2.out.size; simpa using this
    have hs3 := HB3.out.size
    have hBb : w1.heap.size + 1 ≤ B := by have := HBB.out; simpa using this
    have hMp3 := HM2.out.stays HB3.out
    have hbox : Boxed w3 w1.heap.size 2 (.int .i64 0) := (HB3.out.block _ (by omega)).trans ((HB2.out.block _ (by simp)).trans (Boxed.new w1 2 (.int .i64 0)))
    have h31 : w3.heap.size ≤ w3.heap.size := Nat.le_refl _
    refine wpIn_rangeFunc_ownF rfl (by omega) (gf := 53) (lb := #[.pointer (some ⟨w2.heap.size, 0, none⟩), .pointer (some ⟨w2.heap.size + 1, 0, none⟩)]) rfl trivial (enters_of Try.func53 (by kernel_rfl) rfl)
      (below_stops 2 (by omega) w2.heap.size (w2.heap.size + 1) B w1.heap.size w3.heap.size l x HTR.out w3 hbox.lt (by omega) (by omega) (by omega) hMp3.lt HM3.out HY3.out hMp3) KeepB.trans (KeepB.put (Nat.le_refl _)) (Below.refl _ _) (fun _ => rfl)
      (fun pre W => Boxed W w1.heap.size 2 (.int .i64 (pre.length : Int)) ∧ Below w.heap.size w W)
      (fun _ _ _ => False)
      (OwnFrom.and (Own.from (boxed_own w1.heap.size 2 (fun pre : List NodG => .int .i64 (pre.length : Int))) _) (ownFrom_below (Nat.le_refl _) hB3.size))
      (fun _ _ _ _ _ hs _ _ => hs)
      ⟨hbox, hB3⟩
      (fun x' => { tmps := #[.agg #[.slice ao l.length cap], .int .i64 x, .pointer (some ⟨w.heap.size, 0, none⟩), undef, .int .i64 0, .pointer (some ⟨w1.heap.size, 0, none⟩), .agg #[.slice ao l.length cap], .bool true, .bool false, .agg #[.slice ao l.length cap], .map (some B), .int .i64 x, .func (.func 53) #[] #[.pointer (some ⟨w2.heap.size, 0, none⟩), .pointer (some ⟨w2.heap.size + 1, 0, none⟩)], x'.agg, undef, undef, undef], defers := [] }) ?assign ?body ?done ?stop
    case assign =>
      intro l' x' W K hK
      gi_wp2
      simpa using hK
    case body =>
      rintro l' pre x' W ⟨hbx, hBW⟩ hlt
      have hc := hbx.cell
      have hf := hbx.frozen
      have hlt2 : pre.length ≤ 150 := by have := undN_le l x; have := HTR.out.1; omega
      unfold NodG.agg
      gi_wp2
      exact ⟨KeepsOthers.setCell _ _ _, ⟨by simp [World.setCell], fun k o ho hk _ => (Below.heap_setCell W ⟨w1.heap.size, 0, none⟩ _ k hk).trans ho⟩, by have := hbx.set (.int .i64 ((pre.length : Int) + 1)); simpa using this, hBW.setCell (p := ⟨w1.heap.size, 0, none⟩) hz1 _⟩
    case done =>
      rintro D ys W hD hys ⟨hbx, hBW⟩ hK
      have hc := hbx.cell
      gi_wp2
      refine ⟨by simp, .inl ⟨_, _, rfl, run_takeDeferred hK, ?_⟩⟩
      exact ⟨_, results_tmp rfl _ _ _, by rw [HF.out, ← hys]; rfl, hBW.trans (belowK_b (w := w) (Nat.le_refl _) W D _ _ (Nat.le_trans hB3.size hD) hK rfl rfl)⟩
    case stop =>
      rintro D c pre W _ _ h _
      exact h.elim
end Go.Proofs.Ytcpgkalafkhlgaf.OpR
