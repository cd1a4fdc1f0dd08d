/- Proves that the law FnExactOpsRead's walk returns true. -/
import Derived.Test.YtbahpaihblelmaeReadW
import Derived.Test.YtbahpaihblelmaeAnsL
namespace Go.Proofs.Ytbahpaihblelmae.OpR
open Go.ChangeShapes Go.WideShapes Go.ChangeAt Go.RowKit
set_option linter.unusedVariables false

theorem OpsOf.far {w : World} {base : Nat} {T : TypeId} {l : List OpV} {v : Value} (h : OpsOf w base T v l) : ∀ x, v.ownBlock = some x → base ≤ x := by
  rcases h with h | ⟨rfl, _⟩
  · intro x hx
    exact (h.1.lt x hx).1
  · intro x hx
    simp [Value.ownBlock] at hx
theorem read_len (t : ByteArray) : (readRes t).1.length ≤ 8001 := by
  unfold readRes
  split
  · simp
  · split
    · have := rAll_len t
      show (rAll t).1.length ≤ 8001
      omega
    · simp
theorem owned_mark {w : World} {base : Nat} {l : List OpV} {a : Option Addr} {n c : Nat} (h : OpsOf w base 63 (.slice a n c) l) (hn : n = l.length) : MarkOk w a n ∧ ∀ x, a = some x → base ≤ x.block := by
  rcases h with h | ⟨e, hl⟩
  · have h0 := h
    obtain ⟨g, cap, e, hb, hlt, hc, _⟩ := h.at
    simp only [Value.slice.injEq] at e
    obtain ⟨rfl, _, rfl⟩ := e
    subst hn
    refine ⟨.inl ⟨g, c * 7, rfl, Nat.mul_le_mul_right _ hc, ?_⟩, fun x e => by cases e; exact hb⟩
    rcases h0.1.2 with ⟨e, _⟩ | ⟨g', cap', cur, e, _, hg, _, _, hs, _⟩
    · simp at e
    · simp only [Value.slice.injEq, Option.some.injEq, Addr.mk.injEq] at e
      obtain ⟨⟨rfl, _⟩, _, rfl⟩ := e
      exact ⟨cur, hg, hs⟩
  · simp only [Value.slice.injEq] at e
    obtain ⟨rfl, rfl, _⟩ := e
    exact ⟨.inr ⟨rfl, rfl⟩, fun x e => by cases e⟩

set_option maxRecDepth 100000 in
set_option maxHeartbeats 1000000 in
theorem law_opsRead (t : ByteArray) (w : World) (ht : t.size ≤ maxLen) :
    Calls Try.prog 3 #[.string t] w fun e w' => e = .returned (.bool true) ∧ Below w.heap.size w w' := by
  have hS := fun W => sRead_any t W ht
  have hI := fun W => iRead_any t W ht
  obtain ⟨r, hr⟩ : ∃ r, r = readRes t := ⟨_, rfl⟩
  rw [← hr] at hS hI
  have HLq : Hid (r.1.length ≤ 1048576) := ⟨by rw [hr]; have := read_len t; omega⟩
  have HLr : Hid (r.1.length ≤ maxLen) := ⟨by rw [hr]; have := read_len t; unfold maxLen; omega⟩
  unfold maxLen at ht
  clear hr
  have I1 : Hid True := ⟨trivial⟩
  have E1 : Hid True := ⟨trivial⟩
  have Hh1 : Hid True := ⟨trivial⟩
  by_cases h20 : 1048576 < t.size
  · go_enter Try.func3, Try.ntmps3
    go_wp2
    go_ret
    exact ⟨rfl, Below.refl _ _⟩
  · go_enter Try.func3, Try.ntmps3
    go_wp2_with (first | (go_at_call 7; refine (hS _).mono ?_; rintro e w1 ⟨v1, rfl, ho1, hb1⟩; obtain ⟨aw, cw, rfl, hcw, haw⟩ := ho1.at; have HW := Hid.mk (Ans.new w1 aw cw r.1.length r.2.1 r.2.2 r.1 haw ho1.lt); have hB1 := hb1.alloc hb1.size (.cells #[.slice aw r.1.length cw, .int .i64 r.2.1, .int .i64 r.2.2] 24); clear ho1 haw hcw) | (go_at_call 8; clear I1; refine (hI (w1.alloc (.cells #[.slice aw r.1.length cw, .int .i64 r.2.1, .int .i64 r.2.2] 24))).mono ?_; rintro e w2 ⟨v2, rfl, ho2, hb2⟩; have hq1 : w1.heap.size + 1 ≤ w2.heap.size := (by have := hb2.size; simpa using this); have hB2 := hB1.trans (hb2.mono hB1.size); obtain ⟨ag, cg, rfl, hcg, hag⟩ := ho2.at; have hmf := owned_mark ho2 rfl; have HMk := Hid.mk hmf.1; have HFar : Hid (∀ x, ag = some x → w1.heap.size + 1 ≤ x.block) := Hid.mk (fun x e => (by have := hmf.2 x e; simpa using this)); clear hmf; have HW := Hid.mk (HW.out.below hb2); have HG := Hid.mk (Ans.new w2 ag cg r.1.length r.2.1 r.2.2 r.1 hag ho2.lt); obtain ⟨p0, p1, p2⟩ := HW.out.cells; have hpl := HW.out.lt; clear ho2 hag hcg) | (go_at_call 9; clear E1; have hab : Below w2.heap.size w2 (w2.alloc (.cells #[.slice ag r.1.length cg, .int .i64 r.2.1, .int .i64 r.2.2] 24)) := (Below.refl _ _).alloc (Nat.le_refl _) _; refine (eqOut_same r.1 r.2.1 r.2.2 ag aw cg cw (w2.alloc (.cells #[.slice ag r.1.length cg, .int .i64 r.2.1, .int .i64 r.2.2] 24)) HLr.out HG.out.row (HW.out.below hab).row).mono ?_; rintro e w3 ⟨rfl, hb3⟩; have hab3 : Below w2.heap.size w2 w3 := hab.trans (hb3.mono (by simp)); have hB3 := hB2.trans (hab3.mono hB2.size); have HW := Hid.mk (HW.out.below hab3); have HG := Hid.mk (HG.out.below hb3); have HMk := Hid.mk (HMk.out.below hab3); clear p0 p1 p2 hpl hab; obtain ⟨g0, g1, g2⟩ := HG.out.cells; have h4 := markOut_any ag r.1.length cg r.2.1 r.2.2 w3 HLq.out HMk.out; obtain ⟨K3, hK3⟩ : ∃ K3 : Nat, K3 = 1 + 7 * r.1.length := ⟨_, rfl⟩; rw [← hK3] at h4; have H4 := Hid.mk h4; have HK3 := Hid.mk hK3; clear h4 hK3) | (go_at_call 10; refine H4.out.mono ?_; rintro e w4 ⟨rfl, hm4, _, hg4⟩; have hs1 := hb1.size; have hB4 := hB3.grown hg4 hB3.size (fun j hj => by cases hag : ag with | none => rw [hag] at hj; simp at hj | some x => rw [hag] at hj; simp at hj; have := HFar.out x hag; omega); have HW := Hid.mk (HW.out.grown hg4 (map_ne (fun x e => by have := HFar.out x e; omega)) (fun y ey => map_ne (fun x e => by have := HFar.out x e; have := HW.out.low y ey; omega))); have HG := Hid.mk (HG.out.marked hg4 (map_ne (fun x e => by have := HG.out.low x e; omega)) hm4); clear g0 g1 g2 H4 hg4 hm4 hs1; obtain ⟨g0, g1, g2⟩ := HG.out.cells; have h5 := heldOut_any ag r.1.length cg r.2.1 r.2.2 w4 HLq.out HG.out.row; rw [← HK3.out] at h5; have H5 := Hid.mk h5; clear h5) | (go_at_call 11; clear Hh1; refine H5.out.mono ?_; rintro e w5 ⟨rfl, hb5⟩; have hB5 := hB4.trans (hb5.mono hB4.size); have HW := Hid.mk (HW.out.below hb5); have HG := Hid.mk (HG.out.below hb5); clear g0 g1 g2 H5) | (go_at_call 8; refine (hI w5).mono ?_; rintro e w6 ⟨v6, rfl, ho6, hb6⟩; have hB6 := hB5.trans (hb6.mono hB5.size); obtain ⟨ah, ch, rfl, hch, hah⟩ := ho6.at; have HW := Hid.mk (HW.out.below hb6); have HG := Hid.mk (HG.out.below hb6); have HRh := Hid.mk (Ans.new w6 ah ch r.1.length r.2.1 r.2.2 r.1 hah ho6.lt); obtain ⟨p0, p1, p2⟩ := HW.out.cells; have hpl := HW.out.lt; clear ho6 hah hch) | (go_at_call 9; have hab : Below w6.heap.size w6 (w6.alloc (.cells #[.slice ah r.1.length ch, .int .i64 r.2.1, .int .i64 r.2.2] 24)) := (Below.refl _ _).alloc (Nat.le_refl _) _; refine (eqOut_same r.1 r.2.1 r.2.2 ah aw ch cw (w6.alloc (.cells #[.slice ah r.1.length ch, .int .i64 r.2.1, .int .i64 r.2.2] 24)) HLr.out HRh.out.row (HW.out.below hab).row).mono ?_; rintro e w7 ⟨rfl, hb7⟩; have hab7 : Below w6.heap.size w6 w7 := hab.trans (hb7.mono (by simp)); have hB7 := hB6.trans (hab7.mono hB6.size); have HG := Hid.mk (HG.out.below hab7); clear p0 p1 p2 hpl hab; obtain ⟨g0, g1, g2⟩ := HG.out.cells; have h8 := heldOut_any ag r.1.length cg r.2.1 r.2.2 w7 HLq.out HG.out.row; rw [← HK3.out] at h8; have H8 := Hid.mk h8; clear h8) | (go_at_call 11; refine H8.out.mono ?_; rintro e w8 ⟨rfl, hb8⟩; have hB8 := hB7.trans (hb8.mono hB7.size); clear H8))
    go_ret
    exact ⟨rfl, hB8⟩
end Go.Proofs.Ytbahpaihblelmae.OpR
