/- Proves what impl's way through all that lie below a node gives: as many rounds as nodes lie below it. -/
import Derived.Test.YtmidembbanlleafDoorUndM
import Derived.Test.YtmidembbanlleafDoorStpN
import Derived.Deep.RegionHeld3
namespace Go.Proofs.YtmidembbanlleafDoor.OpR
open Go.ChangeShapes Go.WideShapes Go.ChangeAt Go.RowKit Go.Shelf
set_option linter.unusedVariables false
attribute [local go_sem] Oper.semAt_some

/-- What a round keeps: every block of cells but one, and whatever lay below a number. -/
structure KeepB (Bk n₀ : Nat) (W W' : World) : Prop where
  size : W.heap.size ≤ W'.heap.size
  block : ∀ k o, W.heap[k]? = some o → k ≠ Bk → (o.isCells = true ∨ k < n₀) → W'.heap[k]? = some o
theorem KeepB.trans {Bk n₀ : Nat} {A B C : World} (h : KeepB Bk n₀ A B) (k : KeepB Bk n₀ B C) : KeepB Bk n₀ A C :=
  ⟨Nat.le_trans h.size k.size, fun j o ho hj hc => k.block j o (h.block j o ho hj hc) hj hc⟩
theorem KeepB.put {Bk n₀ : Nat} {w : World} (hn : n₀ ≤ w.heap.size) (W : World) (l : Nat) (o o' : Obj) (hl : w.heap.size ≤ l) (h : W.heap[l]? = some o) (hc : o.isCells = false) (_ : o.isWalk = false) : KeepB Bk n₀ W (W.putObj l o') :=
  ⟨(grownBy_putObj' W l o').size, fun k q hq _ hk => ((grownBy_putObj' W l o').block k (Array.getElem?_eq_some_iff.1 hq).1 (fun e => by
    cases e
    rcases hk with hk | hk
    · rw [h] at hq; cases hq; rw [hc] at hk; cases hk
    · omega)).trans hq⟩
theorem KeepB.row {Bk n₀ : Nat} {W W' : World} (h : KeepB Bk n₀ W W') {base : Nat} {e : TypeId} {size : Nat} {v : Value} {n : Nat} {xs : List Value} (hr : W.ownsRow base e size v n xs) (hB : Bk < base) : W'.ownsRow base e size v n xs :=
  ⟨hr.1, hr.2.imp id fun ⟨g, cap, cur, e1, hb, hg, r⟩ => ⟨g, cap, cur, e1, hb, h.block g _ hg (by omega) (.inl rfl), r⟩⟩
theorem KeepB.map {Bk n₀ : Nat} {W W' : World} (h : KeepB Bk n₀ W W') {B : Nat} {m : List (Int × NodG)} (hm : MapAt W B m) (hB : B < n₀) (hk : B ≠ Bk) : MapAt W' B m := by
  refine hm.block ?_
  have hlt := hm.lt
  rw [h.block B W.heap[B] (Array.getElem?_eq_getElem hlt) hk (.inr hB), Array.getElem?_eq_getElem hlt]
/-- What the nodes of a slice come to, read off the memory. -/
def wOf (l : List NodG) (v : Value) (w : World) : Nat := match v with
  | .slice (some a) n _ => ((List.range n).map fun j => 1 + undN l (intOf ((w.cell? ⟨a.block, a.off + j * 4, none⟩).getD (.bool false)))).sum
  | _ => 0
theorem wOf_is (l : List NodG) {w : World} {base : Nat} {v : Value} {r : List NodG} (h : w.ownsRow base 53 4 v r.length (flatG NodG.cells r)) : wOf l v w = wgt l r := by
  obtain ⟨ao, c, rfl, _, hN⟩ := owns_atN h
  cases ao with
  | none =>
    cases r with
    | nil => rfl
    | cons n r => obtain ⟨b, off, e, _⟩ := hN 0 (by simp); cases e
  | some a =>
    unfold wgt
    show ((List.range r.length).map _).sum = _
    congr 1
    refine List.ext_getElem (by simp) (fun j h1 h2 => ?_)
    have hj : j < r.length := by simpa using h1
    obtain ⟨b, off, e, _, hA⟩ := hN j hj
    cases e
    simp only [List.getElem_map, List.getElem_range]
    rw [hA.1]
    rfl
theorem drewU {c c' : World} (h : Below c.drew.heap.size c.drew c') : Below c.heap.size c c' := ((Below.refl _ c).drew).trans (h.mono (Nat.le_refl _))
theorem owns_low {w : World} {base base' : Nat} {e : TypeId} {size : Nat} {v : Value} {n : Nat} {xs : List Value} (h : w.ownsRow base e size v n xs) (hb : base' ≤ base) : w.ownsRow base' e size v n xs :=
  ⟨h.1, h.2.imp id fun ⟨g, cap, cur, e1, hg, r⟩ => ⟨g, cap, cur, e1, Nat.le_trans hb hg, r⟩⟩
theorem grown_of {w w' : World} (h : Below w.heap.size w w') : w.grownBy w' none := ⟨h.os, h.tape, h.output, h.size, fun k hk _ => h.block k hk⟩
set_option maxRecDepth 100000 in
set_option maxHeartbeats 1000000 in
theorem below1_in (n : Nat) (hn : 1 ≤ n) (l Bm Bn b Bk n₀ : Nat) (d : List NodG) (y : Int) (ht : TreeR d) (J Jx : List NodG → World → Prop)
    (hY : ∀ pre x W, J pre W → pre.length < undN d y → YieldAt Fence.wide (n - 1) Tryd.prog l #[x.agg] W fun e W' =>
      (e = .returned (.bool true) ∧ J (pre ++ [x]) W' ∧ KeepB Bk n₀ W W') ∨ (e = .returned (.bool false) ∧ Jx (pre ++ [x]) W'))
    (W : World) (hJ : AbidesFrom W.heap.size J) (hBk : Bk < W.heap.size) (hBmk : Bm ≠ Bk) (hBnk : Bn ≠ Bk) (hbk : b ≠ Bk) (hbn : b < n₀) (hm : W.heap[Bm]? = some (.cells #[.map (some b)] 42)) (hy : W.heap[Bn]? = some (.cells #[.int .i64 y] 2)) (hown : MapAt W b (kvOf d)) (h0 : J [] W) :
    CallsIn Fence.wide n Tryd.prog 43 #[.func (.yield l) #[] #[], .pointer (some ⟨Bm, 0, none⟩), .pointer (some ⟨Bn, 0, none⟩)] W fun e W' => (∃ v, e = .returned v) ∧
      ((∃ xs, xs.length = undN d y ∧ J xs W') ∨ (∃ pre, True ∧ Jx pre W')) := by
  have hkids := fun z W2 (hM : MapAt W2 b (kvOf d)) => iKids_any (kvOf d) b z W2 (by rw [kvOf_len]; exact ht.1) hM
  have HK := hide hkids
  have hcm := (cells1 hm).1
  have hcy := (cells1 hy).1
  refine callsIn_of_wp Tryd.func43 rfl trivial ?_ rfl
  simp only [Tryd.ntmps43, List.size_toArray, List.length_cons, List.length_nil, Nat.reduceAdd, Nat.reduceSub, Array.replicate_succ, Array.replicate_zero, List.push_toArray, List.append_toArray, List.nil_append, List.cons_append]
  gi_wp2_with (refine ⟨trivial, ?_⟩; gi_at_call 44; refine (callsIn_wide.2 (HK.out y W hown)).mono ?_; rintro e w1 ⟨v1, s1, rfl, ho1, hs1, hr1, hb1⟩)
  have HJ := hide hJ
  have HY := hide hY
  have HT := hide ht
  have HM0 := hide (hown.stays hb1)
  have HB0 : Hid (w1.heap[Bm]? = some (.cells #[.map (some b)] 42)) := ⟨(hb1.block Bm (Array.getElem?_eq_some_iff.1 hm).1).trans hm⟩
  have HR0 : Hid (w1.ownsRow W.heap.size 53 4 v1 s1.length (flatG NodG.cells s1)) := ⟨hr1⟩
  have HS0 : Hid (wgt d s1 = undN d y) := ⟨by obtain ⟨xs, ha, hp⟩ := hs1; rw [und_kids ht, kids_is ht.2.1 ha hp ho1]⟩
  have HJ0 : Hid (J [] w1) := ⟨hJ [] W w1 none h0 (grown_of hb1) (fun r e => by cases e)⟩
  have hz1 := hb1.size
  clear hJ hY ht hm hy hown hr1 hs1 ho1 h0 hb1 hcm hcy hkids
  gi_loopw [4] (fun p wr => ∃ (pre rest : List NodG), wr.ownsRow W.heap.size 53 4 p rest.length (flatG NodG.cells rest) ∧ pre.length + wgt d rest = undN d y ∧ J pre wr ∧ MapAt wr b (kvOf d) ∧ wr.heap[Bm]? = some (.cells #[.map (some b)] 42) ∧ W.heap.size ≤ wr.heap.size) (fun p wr => wOf d p wr)
  case atStart =>
    exact ⟨[], s1, HR0.out, by simpa using HS0.out, HJ0.out, HM0.out, HB0.out, hz1⟩
  case round =>
    obtain ⟨pre, rest, hr, hw, hj, hM, hB, hz⟩ := hrel
    cases rest with
    | nil =>
      obtain ⟨ao, c, rfl, _, _⟩ := owns_atN hr
      have HW := hide hw
      have HJr := hide hj
      clear hr hw hj hM hB
      gi_wp2
      go_end0
      exact ⟨⟨_, rfl⟩, .inl ⟨pre, by simpa [wgt] using HW.out, HJr.out⟩⟩
    | cons x r =>
      have hms := wOf_is d hr
      rw [wgt_cons] at hms hw
      obtain ⟨g, c, rfl⟩ := ownsRow_succ (k := r.length) hr
      have hN := owns_cellsN hr
      have hlc : r.length + 1 ≤ c := by
        obtain ⟨ao', c', e, hl, _⟩ := owns_atN hr
        cases e
        simpa using hl
      have hg : g < wr.heap.size := by obtain ⟨g', off, e, hg, _⟩ := hN 0 (by simp); cases e; exact hg
      have hgb : W.heap.size ≤ g := (World.ownsRow.lt hr g rfl).1
      obtain ⟨c0, c1, c2, c3⟩ := hN.at0N (k := 0) (by simp)
      have hJ2 := HJ.out pre wr (wr.alloc (.cells #[.int .i64 x.id, .int .i64 x.parent, .string x.name, .slice x.pao x.props.length x.pcap] 53)) none hj (World.grownBy_alloc _ _ _) (fun r e => by cases e)
      obtain ⟨fn, tmps, assign, body, hyd, hR⟩ := HY.out pre x _ hJ2 (by omega)
      have HMs := hide hms
      have HWs := hide hw
      have HRw := hide hr
      have HN := hide hN
      have HMp := hide hM
      have HBm := hide hB
      have hl0 : ¬ ((r.length : Int) + 1 ≤ 0) := by omega
      have hl1 : (0 : Int) < (r.length : Int) + 1 := by omega
      unfold NodG.agg at hyd
      clear hms hw hr hN hM hB hj hJ2
      have HFr : Hid (∀ W3, KeepB Bk n₀ (wr.alloc (.cells #[.int .i64 x.id, .int .i64 x.parent, .string x.name, .slice x.pao x.props.length x.pcap] 53)) W3 → W3.heap[wr.heap.size]? = some (.cells #[.int .i64 x.id, .int .i64 x.parent, .string x.name, .slice x.pao x.props.length x.pcap] 53) ∧ W3.heap[Bm]? = some (.cells #[.map (some b)] 42) ∧ MapAt W3 b (kvOf d) ∧ W3.ownsRow W.heap.size 53 4 (.slice (some ⟨g, 0, none⟩) (r.length + 1) c) (x :: r).length (flatG NodG.cells (x :: r))) := ⟨fun W3 hk3 => ⟨hk3.block _ _ (heap_alloc_new _ _) (by omega) (.inl rfl), hk3.block _ _ ((Below.heap_alloc wr _ Bm (Array.getElem?_eq_some_iff.1 HBm.out).1).trans HBm.out) hBmk (.inl rfl), hk3.map (HMp.out.stays ((Below.refl _ _).alloc (Nat.le_refl _) _)) hbn hbk, hk3.row (HRw.out.alloc _) (by omega)⟩⟩
      gi_wp2
      refine hR.mono ?_
      rintro e W3 (⟨rfl, hj3, hk3⟩ | ⟨rfl, hjx3⟩)
      · obtain ⟨hfb, hmb, hmp, hrow⟩ := HFr.out W3 hk3
        have hsz3 := hk3.size
        have HFb := hide hfb
        have HMb := hide hmb
        have HMp3 := hide hmp
        have HRow : Hid (W3.ownsRow W.heap.size 53 4 (.slice (some ⟨g, 0, none⟩) (x :: r).length c) (x :: r).length (flatG NodG.cells (x :: r))) := ⟨hrow⟩
        have HJ3 := hide hj3
        have hd0 : W3.drew.cell? ⟨Bm, 0, none⟩ = some (.map (some b)) ∧ W3.drew.cell? ⟨wr.heap.size, 0, none⟩ = some (.int .i64 x.id) := ⟨(cells1 hmb).1, (cells4 hfb).1⟩
        have hsl : ∀ W, (Instr.slice 27 (.slice (some ⟨g, 0, none⟩) (r.length + 1) c) (some (.int .i64 1)) none none).run Tryd.prog W = .ok (.slice (some ⟨g, fromN 0 c 1, none⟩) r.length (c - 1)) W := fun W => slice_fromN W g 0 (r.length + 1) c 1 1 rfl (by omega)
        have HNr : Hid (NCells W3 (some ⟨g, fromN 0 c 1, none⟩) r) := ⟨(owns_cellsN HRow.out).from 1 hlc⟩
        obtain ⟨oF, hoF⟩ : ∃ oF, fromN 0 c 1 = oF := ⟨_, rfl⟩
        rw [hoF] at hsl HNr
        clear hoF
        have hrl : r.length ≤ 150 := by have := wgt_len d r; have := undN_le d y; have := HWs.out; have := HT.out.1; omega
        have hz3 : W.heap.size ≤ W3.heap.size := by simp at hsz3; omega
        clear hfb hmb hmp hrow hj3 hk3 c0 c1 c2 c3 hyd hR
        gi_wp2
        refine wpIn_wide.2 ?_
        go_region_held3 (fun W => W.cell? ⟨Bm, 0, none⟩ = some (.map (some b)) ∧ W.cell? ⟨wr.heap.size, 0, none⟩ = some (.int .i64 x.id)) (first | with_reducible exact hd0 | with_reducible exact hd1 | with_reducible exact hd2) (first | (go_at_call 44; refine (HK.out x.id W3.drew (HMp3.out.block (w' := W3.drew) rfl)).mono ?_; rintro e w4 ⟨v4, s4, rfl, ho4, hs4, hr4, hb4⟩; have HB4 := hide (drewU hb4); have HR4 := hide hr4; have HS4 := hide hs4; have HO4 := hide ho4; have HL4 : Hid (s4.length ≤ 150) := (by obtain ⟨xs, ha, hp⟩ := HS4.out; exact ⟨by rw [kids_is HT.out.2.1 ha hp HO4.out]; exact Nat.le_trans (kids_len d x.id) HT.out.1⟩); have hd1 := And.intro (cells1 ((HB4.out.block Bm (Array.getElem?_eq_some_iff.1 HMb.out).1).trans HMb.out)).1 (cells4 ((HB4.out.block wr.heap.size (Array.getElem?_eq_some_iff.1 HFb.out).1).trans HFb.out)).1; have hz4 := HB4.out.size; clear ho4 hs4 hr4 hb4) | (refine step_append_N (by rfl) _ _ (by rfl) W3.heap.size v4 s4 (by rfl) HR4.out (some ⟨g, oF, none⟩) r (c - 1) (by rfl) (HNr.out.stays HB4.out) (by have := HL4.out; omega) (by omega) ?_; intro a5 n5 c5 w5 hn5 hown5 hgrow5; have HN5 := hide hn5; have HO5 := hide hown5; have HB5 : Hid (Below W3.heap.size W3 w5) := ⟨HB4.out.grown hgrow5 hz4 (fun j hj => (HR4.out.lt j hj).1)⟩; have hd2 := And.intro (cells1 ((HB5.out.block Bm (Array.getElem?_eq_some_iff.1 HMb.out).1).trans HMb.out)).1 (cells4 ((HB5.out.block wr.heap.size (Array.getElem?_eq_some_iff.1 HFb.out).1).trans HFb.out)).1; clear hn5 hown5 hgrow5))
        have hS4 : wgt d (s4 ++ r) = undN d x.id + wgt d r := by
          obtain ⟨xs, ha, hp⟩ := HS4.out
          rw [wgt_app, kids_is HT.out.2.1 ha hp HO4.out, ← und_kids HT.out]
        have hO5 : w5.ownsRow W.heap.size 53 4 (.slice a5 n5 c5) (s4 ++ r).length (flatG NodG.cells (s4 ++ r)) := owns_low HO5.out hz3
        go_wp2
        go_roundw
        case rel => exact ⟨pre ++ [x], s4 ++ r, hO5, by have := HWs.out; rw [hS4, List.length_append]; simp; omega, HJ.out _ W3 w5 none HJ3.out (grown_of HB5.out) (fun r e => by cases e), HMp3.out.stays HB5.out, (HB5.out.block Bm (Array.getElem?_eq_some_iff.1 HMb.out).1).trans HMb.out, Nat.le_trans hz3 HB5.out.size⟩
        case measure => have h1 := (wOf_is d hO5).trans hS4; have h2 := HMs.out; show wOf d (.slice a5 n5 c5) w5 < wOf d (.slice (some ⟨g, 0, none⟩) (r.length + 1) c) wr; omega
      · gi_wp2
        refine bodyPost_ret (results_none rfl _ _ _) rfl ?_
        exact ⟨⟨_, rfl⟩, .inr ⟨_, trivial, hjx3⟩⟩
theorem below_stops (n : Nat) (hn : 1 ≤ n) (Bm Bn b Bk n₀ : Nat) (d : List NodG) (y : Int) (ht : TreeR d) (w : World) (hBk : Bk < w.heap.size) (hBmk : Bm ≠ Bk) (hBnk : Bn ≠ Bk) (hbk : b ≠ Bk) (hbn : b < n₀) (hm : w.heap[Bm]? = some (.cells #[.map (some b)] 42)) (hy : w.heap[Bn]? = some (.cells #[.int .i64 y] 2)) (hown : MapAt w b (kvOf d)) :
    SeqStopsK Fence.wide n Tryd.prog 43 #[.pointer (some ⟨Bm, 0, none⟩), .pointer (some ⟨Bn, 0, none⟩)] (fun x : NodG => #[x.agg]) (KeepB Bk n₀) (fun xs => xs.length = undN d y) (fun _ => True) (undN d y) w := fun l J Jx W hW hJ _ hY h0 =>
  below1_in n hn l Bm Bn b Bk n₀ d y ht J Jx hY W hJ (Nat.lt_of_lt_of_le hBk hW.size) hBmk hBnk hbk hbn ((hW.block Bm (Array.getElem?_eq_some_iff.1 hm).1).trans hm) ((hW.block Bn (Array.getElem?_eq_some_iff.1 hy).1).trans hy) (hown.stays hW) h0
set_option maxRecDepth 100000 in
set_option maxHeartbeats 400000 in
theorem below_any (B : Nat) (y : Int) (w : World) :
    Calls Tryd.prog 32 #[.map (some B), .int .i64 y] w fun e w' => e = .returned (.func (.func 43) #[] #[.pointer (some ⟨w.heap.size, 0, none⟩), .pointer (some ⟨w.heap.size + 1, 0, none⟩)]) ∧ w'.heap[w.heap.size]? = some (.cells #[.map (some B)] 42) ∧ w'.heap[w.heap.size + 1]? = some (.cells #[.int .i64 y] 2) ∧ Below w.heap.size w w' := by
  go_enter Tryd.func32, Tryd.ntmps32
  go_wp2
  go_ret
  exact ⟨rfl, (Below.heap_alloc _ _ _ (by simp)).trans (heap_alloc_new w _), by simpa using heap_alloc_new (w.alloc (.cells #[.map (some B)] 42)) (.cells #[.int .i64 y] 2), ((Below.refl _ _).alloc (Nat.le_refl _) _).alloc (by simp) _⟩
end Go.Proofs.YtmidembbanlleafDoor.OpR
