/- Proves what the harness does with servers: sizes, copies, comparisons; and what is known of servers that come in. -/
import Derived.Test.YtdjjpaleemnikaaSgZ
import Derived.Test.YtdjjpaleemnikaaSnW
import Derived.Test.YtdjjpaleemnikaaSzW
import Derived.Test.YtdjjpaleemnikaaOpS
import Derived.Test.YtdjjpaleemnikaaCliH
namespace Go.Proofs.Ytdjjpaleemnikaa.OpR
open Go.ChangeShapes Go.WideShapes Go.ChangeAt Go.RowKit
set_option linter.unusedVariables false

/-- Sizes. -/
structure SSz (k : Nat) (s : SrvV) : Prop where
  ops : s.ops.length ≤ k
  seen : s.seen.length ≤ k
  osz : ∀ o ∈ s.ops, o.name.size ≤ k ∧ o.value.size ≤ k
/-- A server of the harness in a variable. -/
structure SL (w W : World) (s : SrvV) (la : Option Addr) (lc : Nat) (sa : Option Addr) (sc : Nat) : Prop where
  srv : W.heap[w.heap.size]? = some (.cells #[.slice la s.ops.length lc, .slice sa s.seen.length sc] 25 (0, 0))
  below : Below w.heap.size w W
section
variable {w W W' : World} {s : SrvV} {la : Option Addr} {lc : Nat} {sa : Option Addr} {sc : Nat}
theorem SL.new (w : World) (s : SrvV) (la : Option Addr) (lc : Nat) (sa : Option Addr) (sc : Nat) : SL w (w.alloc (.cells #[.slice la s.ops.length lc, .slice sa s.seen.length sc] 25)) s la lc sa sc := ⟨heap_alloc_new w _, (Below.refl _ _).alloc (Nat.le_refl _) _⟩
theorem SL.lt (h : SL w W s la lc sa sc) : w.heap.size < W.heap.size := (Array.getElem?_eq_some_iff.1 h.srv).1
theorem SL.step (h : SL w W s la lc sa sc) (hb : Below W.heap.size W W') : SL w W' s la lc sa sc := ⟨(hb.block _ h.lt).trans h.srv, h.below.trans (hb.mono h.below.size)⟩
theorem SL.set {b i : Nat} {v : Value} (h : SL w W s la lc sa sc) (hne : w.heap.size ≠ b) (hb : w.heap.size ≤ b) : SL w (W.setCell ⟨b, i, none⟩ v) s la lc sa sc := ⟨(Below.heap_setCell _ _ _ _ hne).trans h.srv, h.below.setCell (p := ⟨b, i, none⟩) hb v⟩
theorem SL.cells (h : SL w W s la lc sa sc) : W.cell? ⟨w.heap.size, 0, none⟩ = some (.slice la s.ops.length lc) ∧ W.cell? ⟨w.heap.size, 1, none⟩ = some (.slice sa s.seen.length sc) := by
  have e := h.srv
  constructor <;> simp [World.cell?, e]
end
theorem InG.setAway {w : World} {g b i : Nat} {T : TypeId} {l : List SeenV} {x : Value} (h : InG SeenV.cells w g T l) (hne : g ≠ b) : InG SeenV.cells (w.setCell ⟨b, i, none⟩ x) g T l := h.block (Below.heap_setCell _ _ _ _ hne)
set_option maxRecDepth 100000 in
set_option maxHeartbeats 400000 in
theorem szServer_any (s : SrvV) (la sa : Option Addr) (lc sc : Nat) (w : World) (hz : SSz maxLen s) (hA : OpsAt w la s.ops) :
    Calls Try.prog 5 #[s.agg la lc sa sc, .int .i64 1048576] w fun e w' => ∃ m : Int, e = .returned (.int .i64 m) ∧ m ≤ 1048576 ∧ (0 ≤ m → SSz 1048576 s) ∧ Below w.heap.size w w' := by
  have h1 := fun W (hW : Below w.heap.size w W) => szOpS_left 1048576 s.ops la lc W (by omega) (by omega) hz.ops (hA.stays hW) hz.osz
  have h2 := fun L W h0 h1 => szSeenS_any s.seen sa sc L W h0 h1 hz.seen
  have H1 := hide h1
  have H2 := hide h2
  have HB0 := hide (SL.new w s la lc sa sc)
  obtain ⟨p0, p1⟩ := HB0.out.cells
  unfold SrvV.agg
  clear h1 h2 hA hz
  go_enter Try.func5, Try.ntmps5
  go_wp2_with (first | (go_at_call 6; refine (H1.out _ HB0.out.below).mono ?_; rintro e w1 ⟨m1, rfl, hm1, hq1, hb1⟩; have HB1 := hide (HB0.out.step hb1); have HQ1 := hide hq1; clear p0 p1 hb1 hq1; obtain ⟨p0, p1⟩ := HB1.out.cells) | (go_at_call 23; refine (H2.out m1 _ (by omega) (by omega)).mono ?_; rintro e w2 ⟨m2, rfl, hm2, hq2, hb2⟩; have HB2 := hide (HB1.out.step hb2); have HQ2 := hide hq2; clear hb2 hq2) | fail)
  · go_ret
    exact ⟨-1, rfl, by omega, fun h => by omega, HB1.out.below⟩
  · go_ret
    exact ⟨-1, rfl, by omega, fun h => by omega, HB2.out.below⟩
  · go_ret
    refine ⟨m2, rfl, by omega, fun h => ?_, HB2.out.below⟩
    obtain ⟨a1, a2⟩ := HQ1.out (by omega)
    exact ⟨a1, HQ2.out (by omega), a2⟩
set_option maxRecDepth 100000 in
set_option maxHeartbeats 1000000 in
theorem toServer_any (s : SrvV) (la sa : Option Addr) (lc sc : Nat) (w : World) (hz : SSz 1048576 s) (hA : OpsAt w la s.ops) (hB : SeensAt w sa s.seen) :
    Calls Try.prog 8 #[s.agg la lc sa sc] w fun e w' => ∃ g1 g2, e = .returned (s.agg (some ⟨g1, 0, none⟩) s.ops.length (some ⟨g2, 0, none⟩) s.seen.length) ∧ OpsIn w' g1 59 s.ops ∧ InG SeenV.cells w' g2 67 s.seen ∧ w.heap.size ≤ g1 ∧ g1 < g2 ∧ Below w.heap.size w w' := by
  have h1 := fun W (hW : Below w.heap.size w W) => toOpS_any s.ops la lc W hz.ops (hA.stays hW)
  have h2 := fun W (hW : Below w.heap.size w W) => toSeenS_any s.seen sa sc W hz.seen (hB.stays hW)
  have H1 := hide h1
  have H2 := hide h2
  have hb0 := SL.new w s la lc sa sc
  have hb1 := hb0.step ((Below.refl _ _).alloc (Nat.le_refl _) (.cells #[.slice none 0 0, .slice none 0 0] 31))
  have hb2 := hb1.step ((Below.refl _ _).alloc (Nat.le_refl _) (.cells #[.slice none 0 0, .slice none 0 0] 31))
  have hR0 := heap_alloc_new (w.alloc (.cells #[.slice la s.ops.length lc, .slice sa s.seen.length sc] 25)) (.cells #[.slice none 0 0, .slice none 0 0] 31)
  rw [show (w.alloc (.cells #[.slice la s.ops.length lc, .slice sa s.seen.length sc] 25)).heap.size = w.heap.size + 1 by simp] at hR0
  have hR1 := (Below.heap_alloc ((w.alloc (.cells #[.slice la s.ops.length lc, .slice sa s.seen.length sc] 25)).alloc (.cells #[.slice none 0 0, .slice none 0 0] 31)) (.cells #[.slice none 0 0, .slice none 0 0] 31) (w.heap.size + 1) (by simp)).trans hR0
  have hO1 := heap_alloc_new ((w.alloc (.cells #[.slice la s.ops.length lc, .slice sa s.seen.length sc] 25)).alloc (.cells #[.slice none 0 0, .slice none 0 0] 31)) (.cells #[.slice none 0 0, .slice none 0 0] 31)
  rw [show ((w.alloc (.cells #[.slice la s.ops.length lc, .slice sa s.seen.length sc] 25)).alloc (.cells #[.slice none 0 0, .slice none 0 0] 31)).heap.size = w.heap.size + 1 + 1 by simp] at hO1
  have HB0 := hide hb2
  have HR0 := hide hR1
  have HO0 := hide hO1
  have m1 : Hid True := ⟨trivial⟩
  unfold SrvV.agg
  clear h1 h2 hA hB hz hb0 hb1 hb2 hR0 hR1 hO1
  go_enter Try.func8, Try.ntmps8
  go_wp2_with (first | (go_at_call 9; refine (H1.out _ HB0.out.below).mono ?_; rintro e w1 ⟨rfl, hx, hb1⟩; have hx' : OpsIn w1 (w.heap.size + 1 + 1 + 1) 59 s.ops := (by simpa using hx); have HX1 := hide hx'; have HB1 := hide (HB0.out.step hb1); have hR := (hb1.block _ (Array.getElem?_eq_some_iff.1 HR0.out).1).trans HR0.out; have hO := (hb1.block _ (Array.getElem?_eq_some_iff.1 HO0.out).1).trans HO0.out; have HR1 := hide hR; have HO1 := hide hO; obtain ⟨p0, p1⟩ := HB1.out.cells; obtain ⟨o0, o1, fo⟩ := two hO; have hz1 := hx'.lt; clear hx hx' hb1 hR hO) | (go_at_call 35; refine (H2.out _ (HB1.out.set (by omega) (by omega)).below).mono ?_; rintro e w2 ⟨rfl, hy, hb2⟩; have hy' : InG SeenV.cells w2 w1.heap.size 67 s.seen := (by simpa using hy); have HY2 := hide hy'; have HX2 := hide ((HX1.out.setAway (by omega)).stays hb2); have HB2 := hide ((HB1.out.set (by omega) (by omega)).step hb2); have hR := (hb2.block (w.heap.size + 1) (by simp; omega)).trans ((Below.heap_setCell _ _ _ _ (by show w.heap.size + 1 ≠ w.heap.size + 1 + 1; omega)).trans HR1.out); have hO := (hb2.block (w.heap.size + 1 + 1) (by simp; omega)).trans (set_block HO1.out 0 (.slice (some ⟨w.heap.size + 1 + 1 + 1, 0, none⟩) s.ops.length s.ops.length)); have HR2 := hide hR; have hz2 := hy'.lt; clear p0 p1 o0 o1 fo hy hy' hb2; obtain ⟨p0, p1⟩ := HB2.out.cells; obtain ⟨o0, o1, fo⟩ := two hO; obtain ⟨r0, r1, fr⟩ := two hR; clear hO hR) | fail)
  refine bodyPost_ret (v := .agg #[.slice (some ⟨w.heap.size + 1 + 1 + 1, 0, none⟩) s.ops.length s.ops.length, .slice (some ⟨w1.heap.size, 0, none⟩) s.seen.length s.seen.length]) (by simp [results, Try.results8, go_sem, r0, r1]) rfl ⟨w.heap.size + 1 + 1 + 1, w1.heap.size, rfl, ?_, ?_, by omega, by omega, ?_⟩
  · exact (((HX2.out.setAway (by omega)).setAway (by omega)).setAway (by omega))
  · exact (((HY2.out.setAway (by omega)).setAway (by omega)).setAway (by omega))
  · exact ((HB2.out.below.setCell (by simp; omega) _).setCell (by simp) _).setCell (by simp) _
set_option maxRecDepth 100000 in
set_option maxHeartbeats 400000 in
theorem eqServer_same (s : SrvV) (la sa lb sb : Option Addr) (lc sc ld sd : Nat) (w : World) (hl : s.ops.length ≤ maxLen) (ho : s.seen.length ≤ maxLen) (hA : OpsAt w la s.ops) (hC : SeensAt w sa s.seen) (hB : OpsAt w lb s.ops) (hD : SeensAt w sb s.seen) :
    Calls Try.prog 12 #[s.agg la lc sa sc, s.agg lb ld sb sd] w fun e w' => e = .returned (.bool true) ∧ Below w.heap.size w w' := by
  have h1 := fun W (hW : Below w.heap.size w W) => eqOpS_same s.ops la lb lc ld W hl (hA.stays hW) (hB.stays hW)
  have h2 := fun W (hW : Below w.heap.size w W) => eqSeenS_same s.seen sa sb sc sd W ho (hC.stays hW) (hD.stays hW)
  have H1 := hide h1
  have H2 := hide h2
  have hb0 := SB.new w s la lc sa sc
  have hbn := (Below.refl (w.alloc (.cells #[.slice la s.ops.length lc, .slice sa s.seen.length sc] 31)).heap.size (w.alloc (.cells #[.slice la s.ops.length lc, .slice sa s.seen.length sc] 31))).alloc (Nat.le_refl _) (.cells #[.slice lb s.ops.length ld, .slice sb s.seen.length sd] 31)
  have HB0 := hide (hb0.step hbn)
  have hR0 := heap_alloc_new (w.alloc (.cells #[.slice la s.ops.length lc, .slice sa s.seen.length sc] 31)) (.cells #[.slice lb s.ops.length ld, .slice sb s.seen.length sd] 31)
  rw [show (w.alloc (.cells #[.slice la s.ops.length lc, .slice sa s.seen.length sc] 31)).heap.size = w.heap.size + 1 by simp] at hR0
  have HR0 := hide hR0
  obtain ⟨p0, p1⟩ := HB0.out.cells
  obtain ⟨q0, q1, _⟩ := two HR0.out
  unfold SrvV.agg
  clear h1 h2 hA hC hB hD hb0 hbn hR0 hl ho
  go_enter Try.func12, Try.ntmps12
  go_wp2_with (first | (go_at_call 13; (refine (H1.out _ HB0.out.below).mono ?_); rintro e w1 ⟨rfl, hb1⟩; have HB1 := hide (HB0.out.step hb1); have hR := (hb1.block _ (Array.getElem?_eq_some_iff.1 HR0.out).1).trans HR0.out; have HR1 := hide hR; clear p0 p1 q0 q1 hb1 hR; obtain ⟨p0, p1⟩ := HB1.out.cells; obtain ⟨q0, q1, _⟩ := two HR1.out) | (go_at_call 43; (refine (H2.out _ HB1.out.below).mono ?_); rintro e w2 ⟨rfl, hb2⟩; have HB2 := hide (HB1.out.step hb2); clear hb2) | fail)
  go_ret
  exact ⟨rfl, HB2.out.below⟩
theorem cellsSv : Try.prog.cellsOf 25 = 2 := by kernel_rfl
theorem cellsSnS : Try.prog.cellsOf 23 = 1 := by kernel_rfl
/-- A server that comes in. -/
structure CameSv (w : World) (la sa : Option Addr) (s : SrvV) : Prop where
  sz : SSz maxLen s
  ops : OpsAt w la s.ops
  seen : SeensAt w sa s.seen
set_option maxRecDepth 100000 in
theorem cameSrv {H : Type} {enc : TypeId × Value → H} {W : World} {base : Nat} {v : Value} {d : DataW H} {p : List MemPlace} (hv : Value.okWide Try.prog W .any base 25 v) (h : DataW.Trod enc Try.prog W 0 (fun _ => true) true 25 v d p) :
    ∃ la lc sa sc s, v = SrvV.agg s la lc sa sc ∧ CameSv W la sa s := by
  obtain ⟨fuel, hf⟩ := h
  simp only [Value.okWide, Try.underlying25] at hv
  obtain ⟨cs, rfl, _, _⟩ := hv
  obtain ⟨xs, n, _, _, hl, hlen, hfd⟩ := DataW.trod_struct Try.underlying25 hf
  rw [cellsSv] at hl
  have hcl : (Value.agg cs).cells.toList = cs.toList := by simp [Value.cells]
  rw [hcl] at hl hfd
  obtain ⟨c0, c1, hc0⟩ : ∃ c0 c1, cs.toList = [c0, c1] := by
    match e : cs.toList, hl with
    | [c0, c1], _ => exact ⟨c0, c1, rfl⟩
  match xs, hlen with
  | [x0, x1], _ =>
  have h0 : DataW.trod enc Try.prog W 0 (fun _ => true) true n 22 [c0] = some x0 := by
    have h : DataW.trod enc Try.prog W 0 (fun _ => true) true n 22 ((cs.toList.drop 0).take (Try.prog.cellsOf 22)) = some x0 := hfd 0 _ rfl
    rw [cellsOS, hc0] at h
    exact h
  have h1 : DataW.trod enc Try.prog W 0 (fun _ => true) true n 23 [c1] = some x1 := by
    have h : DataW.trod enc Try.prog W 0 (fun _ => true) true n 23 ((cs.toList.drop 1).take (Try.prog.cellsOf 23)) = some x1 := hfd 1 _ rfl
    rw [cellsSnS, hc0] at h
    exact h
  have hcs : cs = #[c0, c1] := by rw [← Array.toArray_toList (xs := cs), hc0]
  subst hcs
  obtain ⟨la, lc, l, e2, z2, a2, s2⟩ := ops_of_trod h0
  obtain ⟨sa, sc, l4, e4, z4, a4⟩ := seens_of_trod h1
  subst e2; subst e4
  exact ⟨la, lc, sa, sc, ⟨l, l4⟩, rfl, ⟨z2, z4, s2⟩, a2, a4⟩
end Go.Proofs.Ytdjjpaleemnikaa.OpR
