/- Proves what the harness does with rows, which have two texts each as props have: sizes, copies, comparisons; and what is known of rows that come in. -/
import Derived.Test.YtmidembbanlleagTrH
import Derived.Test.YtmidembbanlleagRowG
import Derived.Test.YtmidembbanlleagCameOp
namespace Go.Proofs.Ytmidembbanlleag.OpR
open Go.ChangeShapes Go.WideShapes Go.ChangeAt Go.RowKit
set_option linter.unusedVariables false

set_option maxRecDepth 100000 in
set_option maxHeartbeats 400000 in
theorem szRow_any (p : PropV) (left : Int) (w : World) (h0 : 0 ≤ left) (h1 : left ≤ 1048576) (hn : p.key.size ≤ maxLen) (hv : p.value.size ≤ maxLen) :
    Calls Try.prog 22 #[p.agg, .int .i64 left] w fun e w' => ∃ m : Int, e = .returned (.int .i64 m) ∧ m ≤ left ∧ -1 ≤ m ∧ (0 ≤ m → p.key.size ≤ 1048576 ∧ p.value.size ≤ 1048576) ∧ Below w.heap.size w w' := by
  unfold maxLen at hn hv
  unfold PropV.agg
  go_enter Try.func22, Try.ntmps22
  go_wp2
  · go_ret; exact ⟨-1, rfl, by omega, by omega, fun h => by omega, (Below.refl _ _).alloc (Nat.le_refl _) _⟩
  · go_ret; exact ⟨-1, rfl, by omega, by omega, fun h => by omega, (Below.refl _ _).alloc (Nat.le_refl _) _⟩
  · go_ret; exact ⟨_, rfl, by omega, by omega, fun h => by omega, (Below.refl _ _).alloc (Nat.le_refl _) _⟩
set_option maxRecDepth 100000 in
set_option maxHeartbeats 400000 in
theorem szRowS_any (l : List PropV) (ao : Option Addr) (cap : Nat) (left : Int) (w : World) (h0 : 0 ≤ left) (h1 : left ≤ 1048576) (hl : l.length ≤ maxLen) (hA : PropsAt w ao l) (hS : SizedP maxLen l) :
    Calls Try.prog 6 #[.slice ao l.length cap, .int .i64 left] w fun e w' => ∃ m : Int, e = .returned (.int .i64 m) ∧ m ≤ left ∧ -1 ≤ m ∧ (0 ≤ m → l.length ≤ 1048576 ∧ SizedP 1048576 l) ∧ Below w.heap.size w w' := by
  have hl' := hl
  unfold maxLen at hl
  have HA : Hid (PropsAt w ao l) := ⟨hA⟩
  have HS : Hid (SizedP maxLen l) := ⟨hS⟩
  clear hA hS
  go_enter Try.func6, Try.ntmps6
  go_wp2
  · go_ret; exact ⟨-1, rfl, by omega, by omega, fun h => by omega, Below.refl _ _⟩
  go_loopw [1, 5] (fun m i wr => ∃ (k : Nat) (z : Int), k ≤ l.length ∧ i = .int .i64 k ∧ m = .int .i64 z ∧ 0 ≤ z ∧ z ≤ left ∧ (∀ j (hj : j < l.length), j < k → l[j].key.size ≤ 1048576 ∧ l[j].value.size ≤ 1048576) ∧ Below w.heap.size w wr) (fun _ i _ => l.length - (intOf i).toNat)
  case atStart => exact ⟨0, _, by omega, rfl, rfl, by omega, by omega, fun j hj h => by omega, Below.refl _ _⟩
  case round =>
    obtain ⟨k, z, hk, rfl, rfl, hz0, hz1, hall, hb⟩ := hrel
    have HL : Hid (∀ j (hj : j < l.length), j < k → l[j].key.size ≤ 1048576 ∧ l[j].value.size ≤ 1048576) := ⟨hall⟩
    clear hall
    by_cases h : k < l.length
    · obtain ⟨b, off, rfl, hlt, ho⟩ := HA.out k h
      obtain ⟨c0, c1⟩ := ho.block (w' := wr) (hb.block b hlt)
      have hsz := HS.out _ (List.getElem_mem h)
      have hcall := szRow_any l[k] z wr hz0 (by omega) hsz.1 hsz.2
      unfold PropV.agg at hcall
      have hi0 : (0 : Int) ≤ (k : Int) := by omega
      have hi1 : (k : Int) < (l.length : Int) := by omega
      clear ho hsz
      go_wp2_with (first | (go_at_call 22; refine hcall.mono ?_; rintro e w1 ⟨m, rfl, hm0, hm1, hm2, hb1⟩))
      · go_ret; exact ⟨-1, rfl, by omega, by omega, fun h => by omega, hb.trans (hb1.mono hb.size)⟩
      · go_roundw
        case rel =>
          refine ⟨k + 1, m, by omega, by go_num, rfl, by omega, by omega, fun j hj hjk => ?_, hb.trans (hb1.mono hb.size)⟩
          rcases Nat.lt_or_ge j k with h' | h'
          · exact HL.out j hj h'
          · obtain rfl : j = k := by omega
            exact hm2 (by omega)
        case measure => simp [intOf]; omega
    · go_wp2
      go_ret
      refine ⟨_, rfl, by omega, by omega, fun _ => ⟨by omega, fun o ho => ?_⟩, hb⟩
      obtain ⟨j, hj, rfl⟩ := List.getElem_of_mem ho
      exact HL.out j hj (by omega)
theorem infoRow : (Try.prog.info? 43).map (fun i => (i.zero, i.size, i.bytes)) = some (some (.agg #[.string ⟨#[]⟩, .string ⟨#[]⟩]), 2, 32) := by kernel_rfl
theorem make_rows (n : Nat) (hn : n ≤ 1048576) (w : World) : (Instr.makeSlice 25 (.int .i64 (n : Int)) (.int .i64 (n : Int))).run Try.prog w = .ok (.slice (some ⟨w.heap.size, 0, none⟩) n n) (w.alloc (.cells (flatG PropV.cells (List.replicate n PropV.zero)).toArray 43)) := by
  obtain ⟨i, hi, hz⟩ := Option.map_eq_some_iff.1 infoRow
  simp only [Prod.mk.injEq] at hz
  obtain ⟨hz, hs, hb⟩ := hz
  have h := run_make (P := Try.prog) w 25 43 i _ Try.underlying25 hi hz .i64 .i64 n n (by omega) (by omega) (by rw [hb]; omega) (by omega)
  simp only [Int.toNat_natCast, hs] at h
  rw [← made_cells prop_len (by omega) PropV.zero n]
  exact h
set_option maxRecDepth 100000 in
set_option maxHeartbeats 400000 in
theorem toRow_any (p : PropV) (w : World) :
    Calls Try.prog 23 #[p.agg] w fun e w' => e = .returned p.agg ∧ Below w.heap.size w w' := by
  unfold PropV.agg
  go_enter Try.func23, Try.ntmps23
  go_wp2
  exact bodyPost_ret (v := .agg #[.string p.key, .string p.value]) (by simp [results, Try.results23, go_sem]) rfl ⟨rfl, (((Below.refl _ _).alloc (Nat.le_refl _) _).alloc (by simp) _).alloc (by simp; omega) _⟩
set_option maxRecDepth 100000 in
set_option maxHeartbeats 400000 in
theorem toRowS_any (l : List PropV) (ao : Option Addr) (cap : Nat) (w : World) (hl : l.length ≤ 1048576) (hA : PropsAt w ao l) :
    Calls Try.prog 8 #[.slice ao l.length cap] w fun e w' => e = .returned (.slice (some ⟨w.heap.size, 0, none⟩) l.length l.length) ∧ InG PropV.cells w' w.heap.size 43 l ∧ Below w.heap.size w w' := by
  have HA : Hid (PropsAt w ao l) := ⟨hA⟩
  have hmk := make_rows l.length hl
  clear hA
  go_enter Try.func8, Try.ntmps8
  go_wp2
  go_loopw [4] (fun i wr => ∃ k : Nat, k ≤ l.length ∧ i = .int .i64 k ∧ InG PropV.cells wr w.heap.size 43 (partG PropV.zero (l.take k) l.length) ∧ Below w.heap.size w wr) (fun i _ => l.length - (intOf i).toNat)
  case atStart => exact ⟨0, by omega, rfl, by rw [List.take_zero, partG_nil]; exact heap_alloc_new w _, (Below.refl _ _).alloc (Nat.le_refl _) _⟩
  case round =>
    obtain ⟨k, hk, rfl, hO, hb⟩ := hrel
    have HO : Hid (InG PropV.cells wr w.heap.size 43 (partG PropV.zero (l.take k) l.length)) := ⟨hO⟩
    clear hO
    by_cases h : k < l.length
    · obtain ⟨b, off, rfl, hlt, ho⟩ := HA.out k h
      obtain ⟨c0, c1⟩ := ho.block (w' := wr) (hb.block b hlt)
      have hcall := toRow_any l[k] wr
      unfold PropV.agg at hcall
      have hi0 : (0 : Int) ≤ (k : Int) := by omega
      have hi1 : (k : Int) < (l.length : Int) := by omega
      have Hlen : Hid (k < (partG PropV.zero (l.take k) l.length).length) := ⟨by rw [partG_len _ _ _ (by simp; omega)]; exact h⟩
      clear ho
      go_wp2_with (first | (go_at_call 23; refine hcall.mono ?_; rintro e w1 ⟨rfl, hb1⟩; obtain ⟨d0, d1⟩ := (HO.out.stays hb1).propAt Hlen.out; have f0 := (HO.out.stays hb1).frozen (k * 2); have f1 := (HO.out.stays hb1).frozen (k * 2 + 1); clear c0 c1))
      go_roundw
      case rel =>
        have hst := (HO.out.stays hb1).store prop_len Hlen.out l[k]
        have e : (partG PropV.zero (l.take k) l.length).set k l[k] = partG PropV.zero (l.take (k + 1)) l.length := by
          have := partG_set PropV.zero (l.take k) l.length l[k] (by simp; omega)
          rw [List.length_take, Nat.min_eq_left hk] at this
          rw [this, List.take_add_one, List.getElem?_eq_getElem h]; rfl
        rw [e] at hst
        exact ⟨k + 1, by omega, by go_num, hst, puts_below (Nat.le_refl _) l[k].cells (k * 2) w1 (hb.trans (hb1.mono hb.size))⟩
      case measure => simp [intOf]; omega
    · obtain rfl : k = l.length := by omega
      go_wp2
      go_ret
      have hO := HO.out
      rw [List.take_length, partG_all] at hO
      exact ⟨rfl, hO, hb⟩
set_option maxRecDepth 100000 in
set_option maxHeartbeats 400000 in
theorem eqRow_same (p : PropV) (w : World) :
    Calls Try.prog 26 #[p.agg, p.agg] w fun e w' => e = .returned (.bool true) ∧ Below w.heap.size w w' := by
  unfold PropV.agg
  go_enter Try.func26, Try.ntmps26
  go_wp2
  go_ret
  exact ⟨rfl, ((Below.refl _ _).alloc (Nat.le_refl _) _).alloc (by simp) _⟩
set_option maxRecDepth 100000 in
set_option maxHeartbeats 400000 in
theorem eqRowS_same (l : List PropV) (ao1 ao2 : Option Addr) (cap1 cap2 : Nat) (w : World) (hl : l.length ≤ maxLen) (hA : PropsAt w ao1 l) (hC : PropsAt w ao2 l) :
    Calls Try.prog 10 #[.slice ao1 l.length cap1, .slice ao2 l.length cap2] w fun e w' => e = .returned (.bool true) ∧ Below w.heap.size w w' := by
  unfold maxLen at hl
  have HA : Hid (PropsAt w ao1 l) := ⟨hA⟩
  have HC : Hid (PropsAt w ao2 l) := ⟨hC⟩
  clear hA hC
  go_enter Try.func10, Try.ntmps10
  go_wp2
  go_loopw [5] (fun i wr => ∃ k : Nat, k ≤ l.length ∧ i = .int .i64 k ∧ Below w.heap.size w wr) (fun i _ => l.length - (intOf i).toNat)
  case atStart => exact ⟨0, by omega, rfl, Below.refl _ _⟩
  case round =>
    obtain ⟨k, hk, rfl, hb⟩ := hrel
    by_cases h : k < l.length
    · obtain ⟨b, off, rfl, hlt, ho⟩ := HA.out k h
      obtain ⟨c0, c1⟩ := ho.block (w' := wr) (hb.block b hlt)
      obtain ⟨b2, off2, rfl, hlt2, ho2⟩ := HC.out k h
      obtain ⟨d0, d1⟩ := ho2.block (w' := wr) (hb.block b2 hlt2)
      have hcall := eqRow_same l[k] wr.drew
      unfold PropV.agg at hcall
      have hi0 : (0 : Int) ≤ (k : Int) := by omega
      have hi1 : (k : Int) < (l.length : Int) := by omega
      clear ho ho2
      go_wp2
      go_region_with (go_at_call 26; refine hcall.mono ?_; rintro e w1 ⟨rfl, hb1⟩)
      all_goals (
        go_wp2
        go_roundw
        case rel => exact ⟨k + 1, by omega, by go_num, hb.drew.trans (hb1.mono hb.size)⟩
        case measure => simp [intOf]; omega)
    · obtain rfl : k = l.length := by omega
      go_wp2
      go_ret
      exact ⟨rfl, hb⟩
theorem cellsRw : Try.prog.cellsOf 42 = 2 := by kernel_rfl
theorem rcell_lt {w : World} {b p : Nat} {v : Value} (h : w.cell? ⟨b, p, none⟩ = some v) : b < w.heap.size := by
  rcases Nat.lt_or_ge b w.heap.size with h' | h'
  · exact h'
  · simp [World.cell?, Array.getElem?_eq_none h'] at h
section
variable {H : Type} {enc : TypeId × Value → H} {w : World} {base : Nat} {spare : Nat → Bool} {held : Bool}
set_option maxRecDepth 100000 in
theorem row_of_trod {fuel : Nat} {cs : List Value} {x : DataW H × List MemPlace} (h : DataW.trod enc Try.prog w base spare held fuel 42 cs = some x) :
    ∃ o : PropV, cs = o.cells ∧ o.key.size ≤ maxLen ∧ o.value.size ≤ maxLen := by
  obtain ⟨xs, n, _, _, hl, hlen, hf⟩ := DataW.trod_struct Try.underlying42 h
  rw [cellsRw] at hl
  match cs, hl with
  | [c0, c1], _ =>
  match xs, hlen with
  | [x0, x1], _ =>
  have h0 : DataW.trod enc Try.prog w base spare held n 9 [c0] = some x0 := by
    have h : DataW.trod enc Try.prog w base spare held n 9 (([c0, c1].drop 0).take (Try.prog.cellsOf 9)) = some x0 := hf 0 _ rfl
    rw [cellsS] at h
    exact h
  have h1 : DataW.trod enc Try.prog w base spare held n 9 [c1] = some x1 := by
    have h : DataW.trod enc Try.prog w base spare held n 9 (([c0, c1].drop 1).take (Try.prog.cellsOf 9)) = some x1 := hf 1 _ rfl
    rw [cellsS] at h
    exact h
  obtain ⟨s5, e5, _, z5⟩ := DataW.trod_string Try.underlying9 h0
  obtain ⟨s6, e6, _, z6⟩ := DataW.trod_string Try.underlying9 h1
  cases e5; cases e6
  exact ⟨⟨s5, s6⟩, rfl, z5, z6⟩
end
set_option maxRecDepth 100000 in
theorem rows_of_trod {H : Type} {enc : TypeId × Value → H} {W : World} {fuel : Nat} {c : Value} {x : DataW H × List MemPlace} (hf : DataW.trod enc Try.prog W 0 (fun _ => true) true fuel 22 [c] = some x) :
    ∃ ao cap l, c = .slice ao l.length cap ∧ l.length ≤ maxLen ∧ PropsAt W ao l ∧ SizedP maxLen l := by
  rcases Deep.open_slice Try.underlying22 hf with ⟨hcs, hx⟩ | ⟨a, len', cap', m, n, D, Pl, hcs, _, hl, hm, hmm, hx, hel⟩
  · cases hcs
    exact ⟨none, 0, [], rfl, by unfold maxLen; simp, fun j hj => absurd hj (by simp), fun o ho => absurd ho (by simp)⟩
  · cases hcs
    simp only [if_true] at hmm
    subst hmm
    have each : ∀ i, i < len' → ∃ o : PropV, (∀ f, f < 2 → W.cell? ((a.add (i * 2)).add f) = o.cells[f]?) ∧ o.key.size ≤ maxLen ∧ o.value.size ≤ maxLen := fun i hi => by
      obtain ⟨cs', h1, h2⟩ := hel i (by omega)
      obtain ⟨o, rfl, z1, z2⟩ := row_of_trod h2
      rw [cellsRw] at h1
      obtain ⟨_, _, hc⟩ := World.cells?_some h1
      exact ⟨o, hc, z1, z2⟩
    haveI : Inhabited PropV := ⟨⟨⟨#[]⟩, ⟨#[]⟩⟩⟩
    obtain ⟨f, hfn⟩ := Deep.choose_lt each
    refine ⟨some a, _, (List.range len').map f, by simp; rfl, by simp; omega, fun j hj => ?_, fun o ho => ?_⟩
    · have hj' : j < len' := by simpa using hj
      obtain ⟨hc, _, _⟩ := hfn j hj'
      obtain ⟨b, off, spot⟩ := a
      have h0 := (hfn 0 (by omega)).1 0 (by omega)
      have hspot : spot = none := by simpa [Addr.add] using World.cell?_spot h0
      subst hspot
      have hc' : ∀ q, q < 2 → W.cell? ⟨b, off + j * 2 + q, none⟩ = (f j).cells[q]? := fun q hq => by
        have := hc q hq
        rwa [add_plain, add_plain] at this
      have e : ((List.range len').map f)[j] = f j := by simp
      rw [e]
      exact ⟨b, off, rfl, rcell_lt (hc' 0 (by omega)), hc' 0 (by omega), hc' 1 (by omega)⟩
    · obtain ⟨i, hi, rfl⟩ := List.mem_map.1 ho
      exact ⟨(hfn i (List.mem_range.1 hi)).2.1, (hfn i (List.mem_range.1 hi)).2.2⟩
/-- Rows that come in. -/
def CameR (w : World) (ao : Option Addr) (l : List PropV) : Prop := l.length ≤ maxLen ∧ PropsAt w ao l ∧ SizedP maxLen l
set_option maxRecDepth 100000 in
theorem cameRows {H : Type} {enc : TypeId × Value → H} {W : World} {base : Nat} {v : Value} {d : DataW H} {p : List MemPlace} (hv : Value.okWide Try.prog W .any base 22 v) (h : DataW.Trod enc Try.prog W 0 (fun _ => true) true 22 v d p) :
    ∃ ao cap l, v = .slice ao l.length cap ∧ CameR W ao l := by
  obtain ⟨ao, len, cap, rfl⟩ := okWide_slice Try.underlying22 hv
  obtain ⟨fuel, hf⟩ := h
  have hf' : DataW.trod enc Try.prog W 0 (fun _ => true) true fuel 22 [Value.slice ao len cap] = some (d, p) := by simpa [Value.cells] using hf
  exact rows_of_trod hf'
end Go.Proofs.Ytmidembbanlleag.OpR
