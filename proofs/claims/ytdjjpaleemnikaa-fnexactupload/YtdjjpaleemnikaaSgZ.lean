/- Proves what impl's serving of a server is, and impl.ServerRight. -/
import Derived.Test.YtdjjpaleemnikaaSgY
import Derived.Test.YtdjjpaleemnikaaIOps
namespace Go.Proofs.Ytdjjpaleemnikaa.OpR
open Go.ChangeShapes Go.WideShapes Go.ChangeAt Go.RowKit
set_option linter.unusedVariables false

def SrvV.agg (s : SrvV) (la : Option Addr) (lc : Nat) (sa : Option Addr) (sc : Nat) : Value := .agg #[.slice la s.ops.length lc, .slice sa s.seen.length sc]
/-- A server in a variable, and a result's own. -/
structure SB (w W : World) (s : SrvV) (la : Option Addr) (lc : Nat) (sa : Option Addr) (sc : Nat) : Prop where
  srv : W.heap[w.heap.size]? = some (.cells #[.slice la s.ops.length lc, .slice sa s.seen.length sc] 31 (0, 0))
  below : Below w.heap.size w W
section
variable {w W W' : World} {s : SrvV} {la : Option Addr} {lc : Nat} {sa : Option Addr} {sc : Nat}
theorem SB.new (w : World) (s : SrvV) (la : Option Addr) (lc : Nat) (sa : Option Addr) (sc : Nat) : SB w (w.alloc (.cells #[.slice la s.ops.length lc, .slice sa s.seen.length sc] 31)) s la lc sa sc := ⟨heap_alloc_new w _, (Below.refl _ _).alloc (Nat.le_refl _) _⟩
theorem SB.lt (h : SB w W s la lc sa sc) : w.heap.size < W.heap.size := (Array.getElem?_eq_some_iff.1 h.srv).1
theorem SB.step (h : SB w W s la lc sa sc) (hb : Below W.heap.size W W') : SB w W' s la lc sa sc := ⟨(hb.block _ h.lt).trans h.srv, h.below.trans (hb.mono h.below.size)⟩
theorem SB.cells (h : SB w W s la lc sa sc) : W.cell? ⟨w.heap.size, 0, none⟩ = some (.slice la s.ops.length lc) ∧ W.cell? ⟨w.heap.size, 1, none⟩ = some (.slice sa s.seen.length sc) := by
  have e := h.srv
  constructor <;> simp [World.cell?, e]
theorem SB.set (h : SB w W s la lc sa sc) {b i : Nat} {v : Value} (hne : w.heap.size ≠ b) (hb : w.heap.size ≤ b) : SB w (W.setCell ⟨b, i, none⟩ v) s la lc sa sc := ⟨(Below.heap_setCell _ _ _ _ hne).trans h.srv, h.below.setCell (p := ⟨b, i, none⟩) hb v⟩
end
theorem SgAt.setCell {w : World} {B b i : Nat} {v : Value} {m : List (Int × SgtV)} (h : SgAt w B m) (hne : B ≠ b) : SgAt (w.setCell ⟨b, i, none⟩ v) B m := h.block (Below.heap_setCell _ _ _ _ hne)
theorem two {w : World} {g : Nat} {v0 v1 : Value} {T : TypeId} (h : w.heap[g]? = some (.cells #[v0, v1] T (0, 0))) : w.cell? ⟨g, 0, none⟩ = some v0 ∧ w.cell? ⟨g, 1, none⟩ = some v1 ∧ ∀ i, w.frozen? ⟨g, i, none⟩ = false := by
  refine ⟨?_, ?_, fun i => by simp [World.frozen?, h]⟩ <;> simp [World.cell?, h]
/-- What impl.servingOf answers. -/
def ServOut (w w' : World) (e : Ending) (s : SrvV) (la : Option Addr) (lc : Nat) : Prop :=
  ∃ a n c x, e = .returned (.tuple #[.agg #[.slice a n c, .map x], .bool (srvRight s)]) ∧ Below w.heap.size w w' ∧ (srvRight s = true → ∃ B m, a = la ∧ n = s.ops.length ∧ c = lc ∧ x = some B ∧ seenGo [] s.ops = some m ∧ SgAt w' B m ∧ w.heap.size ≤ B)
theorem ops_repl {l : List OpV} (h : OpsR l) : Repl64 l := by
  intro o ho
  obtain ⟨j, hj, rfl⟩ := List.getElem_of_mem ho
  have h1 := h.2.1 j hj
  unfold opRight isIn at h1
  simp only [Bool.and_eq_true, decide_eq_true_eq] at h1
  omega
theorem go_inv0 {l : List OpV} (h : OpsR l) {m : List (Int × SgtV)} (e : seenGo [] l = some m) : SeenInv l m := by
  rcases go_all (ops_times h) with ⟨m', e1, h1⟩ | ⟨e1, _⟩
  · rw [e] at e1
    cases e1
    exact h1
  · rw [e] at e1; cases e1
theorem sg_len : ∀ (r : List OpV) (m m' : List (Int × SgtV)), seenGo m r = some m' → m'.length ≤ m.length + r.length
  | [], m, m', h => by cases h; simp
  | o :: r, m, m', h => by
    unfold seenGo at h
    split at h
    · have := sg_len r _ m' h
      have := putOp_len m o
      rw [List.length_cons]
      omega
    · cases h
set_option maxRecDepth 100000 in
set_option maxHeartbeats 1000000 in
theorem serving_any (s : SrvV) (la sa : Option Addr) (lc sc : Nat) (w : World) (hl : s.ops.length ≤ maxLen) (hlc : s.ops.length ≤ lc) (hz : Sized s.ops) (hs : s.seen.length ≤ 1048576) (hA : OpsAt w la s.ops) (hB : SeensAt w sa s.seen) :
    Calls Try.prog 38 #[s.agg la lc sa sc] w fun e w' => ServOut w w' e s la lc := by
  have ho := fun W (hW : Below w.heap.size w W) => iOps_any s.ops la lc W hl hlc (hA.stays hW) hz
  have hb0 := SB.new w s la lc sa sc
  have hbn := (Below.refl (w.alloc (.cells #[.slice la s.ops.length lc, .slice sa s.seen.length sc] 31)).heap.size (w.alloc (.cells #[.slice la s.ops.length lc, .slice sa s.seen.length sc] 31))).alloc (Nat.le_refl _) (.cells #[.slice none 0 0, .map none] 75)
  have hB1 := hb0.step hbn
  have hR1 := heap_alloc_new (w.alloc (.cells #[.slice la s.ops.length lc, .slice sa s.seen.length sc] 31)) (.cells #[.slice none 0 0, .map none] 75)
  rw [show (w.alloc (.cells #[.slice la s.ops.length lc, .slice sa s.seen.length sc] 31)).heap.size = w.heap.size + 1 by simp] at hR1
  have HB1 := hide hB1
  have HR1 := hide hR1
  obtain ⟨p0, p1⟩ := hB1.cells
  unfold SrvV.agg
  cases hor : opsRight s.ops
  · have HF : Hid (srvRight s = false) := ⟨by simp [srvRight, hor]⟩
    rw [hor] at ho
    have HO := hide ho
    obtain ⟨_, _, fr⟩ := two hR1
    clear ho hb0 hbn hB1 hR1 hA hB hz
    go_enter Try.func38, Try.ntmps38
    go_wp2_with (first | (go_at_call 55; refine (HO.out _ HB1.out.below).mono ?_; rintro e w1 ⟨rfl, hb1⟩; have HB2 := hide (HB1.out.step hb1); have hR2 := (hb1.block _ (Array.getElem?_eq_some_iff.1 HR1.out).1).trans HR1.out; clear fr; obtain ⟨r0, r1, fr⟩ := two hR2; clear hb1 hR2) | fail)
    refine bodyPost_ret (v := .tuple #[.agg #[.slice none 0 0, .map none], .bool false]) (by simp [results, Try.results38, go_sem, r0, r1]) rfl ⟨_, _, _, _, by rw [HF.out], ?_, fun h => by rw [HF.out] at h; cases h⟩
    exact (HB2.out.below.setCell (by simp) _).setCell (by simp) _
  · have hO := (ops_iff _).1 hor
    have hI := fun W (hW : Below w.heap.size w W) => seenIn_any s.ops la lc W hO.1 (ops_repl hO) (hA.stays hW)
    rw [hor] at ho
    have HO := hide ho
    cases hg : seenGo [] s.ops with
    | none =>
      have HF : Hid (srvRight s = false) := ⟨by simp [srvRight, hg, seenFit]⟩
      rw [hg] at hI
      have HI := hide hI
      clear ho hb0 hbn hB1 hA hB hz hI hO
      go_enter Try.func38, Try.ntmps38
      go_wp2_with (first | (go_at_call 55; refine (HO.out _ HB1.out.below).mono ?_; rintro e w1 ⟨rfl, hb1⟩; have HB2 := hide (HB1.out.step hb1); have hR2 := (hb1.block _ (Array.getElem?_eq_some_iff.1 HR1.out).1).trans HR1.out; have HR2 := hide hR2; clear p0 p1 hb1 hR2; obtain ⟨p0, p1⟩ := HB2.out.cells) | (go_at_call 56; refine (HI.out _ HB2.out.below).mono ?_; rintro e w2 ⟨rfl, hb2⟩; have HB3 := hide (HB2.out.step hb2); have hR3 := (hb2.block _ (Array.getElem?_eq_some_iff.1 HR2.out).1).trans HR2.out; clear p0 p1 hb2; obtain ⟨p0, p1⟩ := HB3.out.cells; obtain ⟨r0, r1, fr⟩ := two hR3; clear hR3) | fail)
      go_region
      all_goals (
        go_wp2
        refine bodyPost_ret (v := .tuple #[.agg #[.slice la s.ops.length lc, .map none], .bool false]) (by simp [results, Try.results38, go_sem, r0, r1]) rfl ⟨_, _, _, _, by rw [HF.out], ?_, fun h => by rw [HF.out] at h; cases h⟩
        exact (HB3.out.below.drew.setCell (by simp) _).setCell (by simp) _)
    | some m =>
      have hInv := go_inv0 hO hg
      have hml := sg_len s.ops [] m hg
      have hm150 : m.length ≤ 150 := by have := hO.1; simp at hml; omega
      have HF : Hid (srvRight s = sameS s.seen (seenL m)) := ⟨by simp [srvRight, hor, hg, seenFit]⟩
      rw [hg] at hI
      have HI := hide hI
      have hli := fun W B (hM : SgAt W B m) => seenList_any m B W hInv.rise hm150 hM
      have hls : (seenL m).length ≤ 150 := by unfold seenL; rw [List.length_map]; exact hm150
      have heq := fun W ao cp (hW : Below w.heap.size w W) (hs2 : SeensAt W ao (seenL m)) => equalE_any s.seen (seenL m) sa ao sc cp W hs (by omega) (hB.stays hW) hs2
      have HLi := hide hli
      have HEq := hide heq
      have HG := hide hg
      clear ho hb0 hbn hB1 hA hB hz hI hO hInv hml hli heq hg
      go_enter Try.func38, Try.ntmps38
      go_wp2_with (first | (go_at_call 55; refine (HO.out _ HB1.out.below).mono ?_; rintro e w1 ⟨rfl, hb1⟩; have HB2 := hide (HB1.out.step hb1); have hR2 := (hb1.block _ (Array.getElem?_eq_some_iff.1 HR1.out).1).trans HR1.out; have HR2 := hide hR2; clear p0 p1 hb1 hR2; obtain ⟨p0, p1⟩ := HB2.out.cells) | (go_at_call 56; refine (HI.out _ HB2.out.below).mono ?_; rintro e w2 ⟨B, rfl, hlo, hM2, hb2⟩; have HM2 := hide hM2; have HLo := hide (And.intro (Nat.le_trans HB2.out.below.size hlo) (Nat.lt_of_lt_of_le (Array.getElem?_eq_some_iff.1 HR2.out).1 hlo)); have HB3 := hide (HB2.out.step hb2); have hR3 := (hb2.block _ (Array.getElem?_eq_some_iff.1 HR2.out).1).trans HR2.out; have HR3 := hide hR3; clear p0 p1 hb2 hM2 hlo; obtain ⟨p0, p1⟩ := HB3.out.cells; obtain ⟨r0, r1, fr⟩ := two hR3; clear hR3) | fail)
      have hd0 := HB3.out.cells
      have hd1 := (HB3.out.step (Below.refl _ w2).drew).cells
      have HBlt := hide HM2.out.lt
      go_region_held3 (fun W => W.cell? ⟨w.heap.size, 0, none⟩ = some (.slice la s.ops.length lc) ∧ W.cell? ⟨w.heap.size, 1, none⟩ = some (.slice sa s.seen.length sc)) (first | with_reducible exact hd0 | with_reducible exact hd1 | with_reducible exact hd2 | with_reducible exact hd3 | exact ((HB5.out.set (by omega) (by omega)).set (by omega) (by omega)).cells | fail) (first | (go_at_call 58; refine (HLi.out _ B (HM2.out.stays (Below.refl _ w2).drew)).mono ?_; rintro e w4 ⟨v4, rfl, ho4, hb4⟩; obtain ⟨ao4, cp4, rfl, _, hat4⟩ := owns_atE ho4; have hq4 : Below w2.heap.size w2 w4 := ((Below.refl _ w2).drew).trans (hb4.mono (Nat.le_refl _)); have HB4 := hide (HB3.out.step hq4); have HM4 := hide (HM2.out.stays hq4); have hd2 := HB4.out.cells; have HA4 := hide hat4; have hR4 := (hq4.block _ (Array.getElem?_eq_some_iff.1 HR3.out).1).trans HR3.out; have HR4 := hide hR4; clear hb4 hq4 ho4 hat4 hR4) | (go_at_call 57; refine (HEq.out _ ao4 cp4 HB4.out.below HA4.out).mono ?_; rintro e w5 ⟨rfl, hb5⟩; have HB5 := hide (HB4.out.step hb5); have HM5 := hide (HM4.out.stays hb5); have hd3 := HB5.out.cells; have hR5 := (hb5.block _ (Array.getElem?_eq_some_iff.1 HR4.out).1).trans HR4.out; clear r0 r1 fr; obtain ⟨r0, r1, fr⟩ := two hR5; clear hb5 hR5) | fail)
      go_wp2
      refine bodyPost_ret (v := .tuple #[.agg #[.slice la s.ops.length lc, .map (some B)], .bool (sameS s.seen (seenL m))]) (by simp [results, Try.results38, go_sem, r0, r1]) rfl ⟨_, _, _, _, by rw [HF.out], (HB5.out.below.setCell (by simp) _).setCell (by simp) _, fun _ => ⟨B, m, rfl, rfl, rfl, rfl, HG.out, (HM5.out.setCell (by have := HLo.out.2; omega)).setCell (by have := HLo.out.2; omega), HLo.out.1⟩⟩
end Go.Proofs.Ytdjjpaleemnikaa.OpR
