/- A change as a Lean value, and how it lies in memory: three cells. Proves what the harness does with rows of changes: sizes, copies, comparisons; and what is known of changes that come in. -/
import Derived.Test.YtmidembbanlleagRwM
namespace Go.Proofs.Ytmidembbanlleag.OpR
open Go.ChangeShapes Go.WideShapes Go.ChangeAt Go.RowKit
set_option linter.unusedVariables false

structure ChV where
  key : ByteArray
  has : Bool
  now : ByteArray
def ChV.agg (p : ChV) : Value := .agg #[.string p.key, .bool p.has, .string p.now]
def ChV.cells (p : ChV) : List Value := [.string p.key, .bool p.has, .string p.now]
def ChV.zero : ChV := ⟨⟨#[]⟩, false, ⟨#[]⟩⟩
theorem ch_len (p : ChV) : p.cells.length = 3 := rfl
def ChAt (w : World) (b p : Nat) (x : ChV) : Prop := w.cell? ⟨b, p, none⟩ = some (.string x.key) ∧ w.cell? ⟨b, p + 1, none⟩ = some (.bool x.has) ∧ w.cell? ⟨b, p + 2, none⟩ = some (.string x.now)
/-- The changes of a slice. -/
def ChsAt (w : World) (ao : Option Addr) (l : List ChV) : Prop := ∀ j (hj : j < l.length), ∃ b off, ao = some ⟨b, off, none⟩ ∧ b < w.heap.size ∧ ChAt w b (off + j * 3) l[j]
theorem infoChange : (Try.prog.info? 48).map (fun i => (i.zero, i.size, i.bytes)) = some (some (.agg #[.string ⟨#[]⟩, .bool false, .string ⟨#[]⟩]), 3, 40) := by kernel_rfl
theorem ChAt.block {w w' : World} {b p : Nat} {x : ChV} (h : ChAt w b p x) (e : w'.heap[b]? = w.heap[b]?) : ChAt w' b p x := by
  unfold ChAt at *
  simpa only [World.cell?, e] using h
theorem ChsAt.stays {w w' : World} {ao : Option Addr} {l : List ChV} (h : ChsAt w ao l) (hb : Below w.heap.size w w') : ChsAt w' ao l := fun j hj => by
  obtain ⟨b, off, e, hlt, ho⟩ := h j hj
  exact ⟨b, off, e, Nat.lt_of_lt_of_le hlt hb.size, ho.block (hb.block b hlt)⟩
theorem ChsAt.below {B : Nat} {w w' : World} {ao : Option Addr} {l : List ChV} (h : ChsAt w ao l) (hb : Below B w w') (hB : ∀ a, ao = some a → a.block < B) : ChsAt w' ao l := fun j hj => by
  obtain ⟨b, off, e, hlt, ho⟩ := h j hj
  exact ⟨b, off, e, Nat.lt_of_lt_of_le hlt hb.size, ho.block (hb.block b (hB _ e))⟩
theorem ChsAt.grown {w w' : World} {row : Option Nat} {ao : Option Addr} {l : List ChV} (h : ChsAt w ao l) (hg : w.grownBy w' row) (hr : ∀ a, ao = some a → some a.block ≠ row) : ChsAt w' ao l := fun j hj => by
  obtain ⟨b, off, e, hlt, ho⟩ := h j hj
  exact ⟨b, off, e, Nat.lt_of_lt_of_le hlt hg.size, ho.block (hg.block b hlt (hr _ e))⟩
theorem make_chs (n : Nat) (hn : n ≤ 1048576) (w : World) : (Instr.makeSlice 29 (.int .i64 (n : Int)) (.int .i64 (n : Int))).run Try.prog w = .ok (.slice (some ⟨w.heap.size, 0, none⟩) n n) (w.alloc (.cells (flatG ChV.cells (List.replicate n ChV.zero)).toArray 48)) := by
  obtain ⟨i, hi, hz⟩ := Option.map_eq_some_iff.1 infoChange
  simp only [Prod.mk.injEq] at hz
  obtain ⟨hz, hs, hb⟩ := hz
  have h := run_make (P := Try.prog) w 29 48 i _ Try.underlying29 hi hz .i64 .i64 n n (by omega) (by omega) (by rw [hb]; omega) (by omega)
  simp only [Int.toNat_natCast, hs] at h
  rw [← made_cells ch_len (by omega) ChV.zero n]
  exact h
theorem InG.chAt {w : World} {g : Nat} {T : TypeId} {l : List ChV} (h : InG ChV.cells w g T l) {k : Nat} (hk : k < l.length) : ChAt w g (k * 3) l[k] :=
  ⟨h.cell ch_len hk (f := 0) (by omega) rfl, h.cell ch_len hk (f := 1) (by omega) rfl, h.cell ch_len hk (f := 2) (by omega) rfl⟩
theorem InG.chsAt {w : World} {g : Nat} {T : TypeId} {l : List ChV} (h : InG ChV.cells w g T l) : ChsAt w (some ⟨g, 0, none⟩) l := fun j hj =>
  ⟨g, 0, rfl, h.lt, by rw [Nat.zero_add]; exact h.chAt hj⟩
set_option maxRecDepth 100000 in
set_option maxHeartbeats 400000 in
theorem szChange_any (p : ChV) (left : Int) (w : World) (h0 : 0 ≤ left) (h1 : left ≤ 1048576) (hn : p.key.size ≤ maxLen) (hv : p.now.size ≤ maxLen) :
    Calls Try.prog 32 #[p.agg, .int .i64 left] w fun e w' => ∃ m : Int, e = .returned (.int .i64 m) ∧ m ≤ left ∧ -1 ≤ m ∧ (0 ≤ m → p.key.size ≤ 1048576 ∧ p.now.size ≤ 1048576) ∧ Below w.heap.size w w' := by
  unfold maxLen at hn hv
  unfold ChV.agg
  go_enter Try.func32, Try.ntmps32
  go_wp2
  · go_ret; exact ⟨-1, rfl, by omega, by omega, fun h => by omega, (Below.refl _ _).alloc (Nat.le_refl _) _⟩
  · go_ret; exact ⟨-1, rfl, by omega, by omega, fun h => by omega, (Below.refl _ _).alloc (Nat.le_refl _) _⟩
  · go_ret; exact ⟨_, rfl, by omega, by omega, fun h => by omega, (Below.refl _ _).alloc (Nat.le_refl _) _⟩
def SizedC (m : Nat) (l : List ChV) : Prop := ∀ p ∈ l, p.key.size ≤ m ∧ p.now.size ≤ m
set_option maxRecDepth 100000 in
set_option maxHeartbeats 400000 in
theorem szChangeS_any (l : List ChV) (ao : Option Addr) (cap : Nat) (left : Int) (w : World) (h0 : 0 ≤ left) (h1 : left ≤ 1048576) (hl : l.length ≤ maxLen) (hA : ChsAt w ao l) (hS : SizedC maxLen l) :
    Calls Try.prog 17 #[.slice ao l.length cap, .int .i64 left] w fun e w' => ∃ m : Int, e = .returned (.int .i64 m) ∧ m ≤ left ∧ -1 ≤ m ∧ (0 ≤ m → l.length ≤ 1048576 ∧ SizedC 1048576 l) ∧ Below w.heap.size w w' := by
  have hl' := hl
  unfold maxLen at hl
  have HA : Hid (ChsAt w ao l) := ⟨hA⟩
  have HS : Hid (SizedC maxLen l) := ⟨hS⟩
  clear hA hS
  go_enter Try.func17, Try.ntmps17
  go_wp2
  · go_ret; exact ⟨-1, rfl, by omega, by omega, fun h => by omega, Below.refl _ _⟩
  go_loopw [1, 5] (fun m i wr => ∃ (k : Nat) (z : Int), k ≤ l.length ∧ i = .int .i64 k ∧ m = .int .i64 z ∧ 0 ≤ z ∧ z ≤ left ∧ (∀ j (hj : j < l.length), j < k → l[j].key.size ≤ 1048576 ∧ l[j].now.size ≤ 1048576) ∧ Below w.heap.size w wr) (fun _ i _ => l.length - (intOf i).toNat)
  case atStart => exact ⟨0, _, by omega, rfl, rfl, by omega, by omega, fun j hj h => by omega, Below.refl _ _⟩
  case round =>
    obtain ⟨k, z, hk, rfl, rfl, hz0, hz1, hall, hb⟩ := hrel
    have HL : Hid (∀ j (hj : j < l.length), j < k → l[j].key.size ≤ 1048576 ∧ l[j].now.size ≤ 1048576) := ⟨hall⟩
    clear hall
    by_cases h : k < l.length
    · obtain ⟨b, off, rfl, hlt, ho⟩ := HA.out k h
      obtain ⟨c0, c1, c2⟩ := ho.block (w' := wr) (hb.block b hlt)
      have hsz := HS.out _ (List.getElem_mem h)
      have hcall := szChange_any l[k] z wr hz0 (by omega) hsz.1 hsz.2
      unfold ChV.agg at hcall
      have hi0 : (0 : Int) ≤ (k : Int) := by omega
      have hi1 : (k : Int) < (l.length : Int) := by omega
      clear ho hsz
      go_wp2_with (first | (go_at_call 32; refine hcall.mono ?_; rintro e w1 ⟨m, rfl, hm0, hm1, hm2, hb1⟩))
      · go_ret; exact ⟨-1, rfl, by omega, by omega, fun h => by omega, hb.trans (hb1.mono hb.size)⟩
      · go_roundw
        case rel =>
          refine ⟨k + 1, m, by omega, by go_num, rfl, by omega, by omega, fun j hj hjk => ?_, hb.trans (hb1.mono hb.size)⟩
          rcases Nat.lt_or_ge j k with h' | h'
          · exact HL.out j hj h'
          · obtain rfl : j = k := by omega
            exact hm2 (by omega)
        case measure => simp [intOf]; omega
    · go_wp2
      go_ret
      refine ⟨_, rfl, by omega, by omega, fun _ => ⟨by omega, fun o ho => ?_⟩, hb⟩
      obtain ⟨j, hj, rfl⟩ := List.getElem_of_mem ho
      exact HL.out j hj (by omega)
set_option maxRecDepth 100000 in
set_option maxHeartbeats 400000 in
theorem toChange_any (p : ChV) (w : World) :
    Calls Try.prog 33 #[p.agg] w fun e w' => e = .returned p.agg ∧ Below w.heap.size w w' := by
  unfold ChV.agg
  go_enter Try.func33, Try.ntmps33
  go_wp2
  exact bodyPost_ret (v := .agg #[.string p.key, .bool p.has, .string p.now]) (by simp [results, Try.results33, go_sem]) rfl ⟨rfl, (((Below.refl _ _).alloc (Nat.le_refl _) _).alloc (by simp) _).alloc (by simp; omega) _⟩
set_option maxRecDepth 100000 in
set_option maxHeartbeats 400000 in
theorem toChangeS_any (l : List ChV) (ao : Option Addr) (cap : Nat) (w : World) (hl : l.length ≤ 1048576) (hA : ChsAt w ao l) :
    Calls Try.prog 19 #[.slice ao l.length cap] w fun e w' => e = .returned (.slice (some ⟨w.heap.size, 0, none⟩) l.length l.length) ∧ InG ChV.cells w' w.heap.size 48 l ∧ Below w.heap.size w w' := by
  have HA : Hid (ChsAt w ao l) := ⟨hA⟩
  have hmk := make_chs l.length hl
  clear hA
  go_enter Try.func19, Try.ntmps19
  go_wp2
  go_loopw [4] (fun i wr => ∃ k : Nat, k ≤ l.length ∧ i = .int .i64 k ∧ InG ChV.cells wr w.heap.size 48 (partG ChV.zero (l.take k) l.length) ∧ Below w.heap.size w wr) (fun i _ => l.length - (intOf i).toNat)
  case atStart => exact ⟨0, by omega, rfl, by rw [List.take_zero, partG_nil]; exact heap_alloc_new w _, (Below.refl _ _).alloc (Nat.le_refl _) _⟩
  case round =>
    obtain ⟨k, hk, rfl, hO, hb⟩ := hrel
    have HO : Hid (InG ChV.cells wr w.heap.size 48 (partG ChV.zero (l.take k) l.length)) := ⟨hO⟩
    clear hO
    by_cases h : k < l.length
    · obtain ⟨b, off, rfl, hlt, ho⟩ := HA.out k h
      obtain ⟨c0, c1, c2⟩ := ho.block (w' := wr) (hb.block b hlt)
      have hcall := toChange_any l[k] wr
      unfold ChV.agg at hcall
      have hi0 : (0 : Int) ≤ (k : Int) := by omega
      have hi1 : (k : Int) < (l.length : Int) := by omega
      have Hlen : Hid (k < (partG ChV.zero (l.take k) l.length).length) := ⟨by rw [partG_len _ _ _ (by simp; omega)]; exact h⟩
      clear ho
      go_wp2_with (first | (go_at_call 33; refine hcall.mono ?_; rintro e w1 ⟨rfl, hb1⟩; obtain ⟨d0, d1, d2⟩ := (HO.out.stays hb1).chAt Hlen.out; have f0 := (HO.out.stays hb1).frozen (k * 3); have f1 := (HO.out.stays hb1).frozen (k * 3 + 1); have f2 := (HO.out.stays hb1).frozen (k * 3 + 2); clear c0 c1 c2))
      go_roundw
      case rel =>
        have hst := (HO.out.stays hb1).store ch_len Hlen.out l[k]
        have e : (partG ChV.zero (l.take k) l.length).set k l[k] = partG ChV.zero (l.take (k + 1)) l.length := by
          have := partG_set ChV.zero (l.take k) l.length l[k] (by simp; omega)
          rw [List.length_take, Nat.min_eq_left hk] at this
          rw [this, List.take_add_one, List.getElem?_eq_getElem h]; rfl
        rw [e] at hst
        exact ⟨k + 1, by omega, by go_num, hst, puts_below (Nat.le_refl _) l[k].cells (k * 3) w1 (hb.trans (hb1.mono hb.size))⟩
      case measure => simp [intOf]; omega
    · obtain rfl : k = l.length := by omega
      go_wp2
      go_ret
      have hO := HO.out
      rw [List.take_length, partG_all] at hO
      exact ⟨rfl, hO, hb⟩
set_option maxRecDepth 100000 in
set_option maxHeartbeats 400000 in
theorem eqChange_same (p : ChV) (w : World) :
    Calls Try.prog 30 #[p.agg, p.agg] w fun e w' => e = .returned (.bool true) ∧ Below w.heap.size w w' := by
  unfold ChV.agg
  go_enter Try.func30, Try.ntmps30
  go_wp2
  go_ret
  exact ⟨rfl, ((Below.refl _ _).alloc (Nat.le_refl _) _).alloc (by simp) _⟩
set_option maxRecDepth 100000 in
set_option maxHeartbeats 400000 in
theorem eqChangeS_same (l : List ChV) (ao1 ao2 : Option Addr) (cap1 cap2 : Nat) (w : World) (hl : l.length ≤ maxLen) (hA : ChsAt w ao1 l) (hC : ChsAt w ao2 l) :
    Calls Try.prog 13 #[.slice ao1 l.length cap1, .slice ao2 l.length cap2] w fun e w' => e = .returned (.bool true) ∧ Below w.heap.size w w' := by
  unfold maxLen at hl
  have HA : Hid (ChsAt w ao1 l) := ⟨hA⟩
  have HC : Hid (ChsAt w ao2 l) := ⟨hC⟩
  clear hA hC
  go_enter Try.func13, Try.ntmps13
  go_wp2
  go_loopw [5] (fun i wr => ∃ k : Nat, k ≤ l.length ∧ i = .int .i64 k ∧ Below w.heap.size w wr) (fun i _ => l.length - (intOf i).toNat)
  case atStart => exact ⟨0, by omega, rfl, Below.refl _ _⟩
  case round =>
    obtain ⟨k, hk, rfl, hb⟩ := hrel
    by_cases h : k < l.length
    · obtain ⟨b, off, rfl, hlt, ho⟩ := HA.out k h
      obtain ⟨c0, c1, c2⟩ := ho.block (w' := wr) (hb.block b hlt)
      obtain ⟨b2, off2, rfl, hlt2, ho2⟩ := HC.out k h
      obtain ⟨d0, d1, d2⟩ := ho2.block (w' := wr) (hb.block b2 hlt2)
      have hcall := eqChange_same l[k] wr.drew
      unfold ChV.agg at hcall
      have hi0 : (0 : Int) ≤ (k : Int) := by omega
      have hi1 : (k : Int) < (l.length : Int) := by omega
      clear ho ho2
      go_wp2
      go_region_with (go_at_call 30; refine hcall.mono ?_; rintro e w1 ⟨rfl, hb1⟩)
      all_goals (
        go_wp2
        go_roundw
        case rel => exact ⟨k + 1, by omega, by go_num, hb.drew.trans (hb1.mono hb.size)⟩
        case measure => simp [intOf]; omega)
    · obtain rfl : k = l.length := by omega
      go_wp2
      go_ret
      exact ⟨rfl, hb⟩
theorem cellsCh : Try.prog.cellsOf 57 = 3 := by kernel_rfl
theorem cellsB : Try.prog.cellsOf 4 = 1 := by kernel_rfl
section
variable {H : Type} {enc : TypeId × Value → H} {w : World} {base : Nat} {spare : Nat → Bool} {held : Bool}
set_option maxRecDepth 100000 in
theorem ch_of_trod {fuel : Nat} {cs : List Value} {x : DataW H × List MemPlace} (h : DataW.trod enc Try.prog w base spare held fuel 57 cs = some x) :
    ∃ o : ChV, cs = o.cells ∧ o.key.size ≤ maxLen ∧ o.now.size ≤ maxLen := by
  obtain ⟨xs, n, _, _, hl, hlen, hf⟩ := DataW.trod_struct Try.underlying57 h
  rw [cellsCh] at hl
  match cs, hl with
  | [c0, c1, c2], _ =>
  match xs, hlen with
  | [x0, x1, x2], _ =>
  have h0 : DataW.trod enc Try.prog w base spare held n 9 [c0] = some x0 := by
    have h : DataW.trod enc Try.prog w base spare held n 9 (([c0, c1, c2].drop 0).take (Try.prog.cellsOf 9)) = some x0 := hf 0 _ rfl
    rw [cellsS] at h
    exact h
  have h1 : DataW.trod enc Try.prog w base spare held n 4 [c1] = some x1 := by
    have h : DataW.trod enc Try.prog w base spare held n 4 (([c0, c1, c2].drop 1).take (Try.prog.cellsOf 4)) = some x1 := hf 1 _ rfl
    rw [cellsB] at h
    exact h
  have h2 : DataW.trod enc Try.prog w base spare held n 9 [c2] = some x2 := by
    have h : DataW.trod enc Try.prog w base spare held n 9 (([c0, c1, c2].drop 2).take (Try.prog.cellsOf 9)) = some x2 := hf 2 _ rfl
    rw [cellsS] at h
    exact h
  obtain ⟨s5, e5, _, z5⟩ := DataW.trod_string Try.underlying9 h0
  obtain ⟨bb, eb, _⟩ := DataW.trod_bool Try.underlying4 h1
  obtain ⟨s6, e6, _, z6⟩ := DataW.trod_string Try.underlying9 h2
  cases e5; cases eb; cases e6
  exact ⟨⟨s5, bb, s6⟩, rfl, z5, z6⟩
end
set_option maxRecDepth 100000 in
theorem chs_of_trod {H : Type} {enc : TypeId × Value → H} {W : World} {fuel : Nat} {c : Value} {x : DataW H × List MemPlace} (hf : DataW.trod enc Try.prog W 0 (fun _ => true) true fuel 35 [c] = some x) :
    ∃ ao cap l, c = .slice ao l.length cap ∧ l.length ≤ maxLen ∧ ChsAt W ao l ∧ SizedC maxLen l := by
  rcases Deep.open_slice Try.underlying35 hf with ⟨hcs, hx⟩ | ⟨a, len', cap', m, n, D, Pl, hcs, _, hl, hm, hmm, hx, hel⟩
  · cases hcs
    exact ⟨none, 0, [], rfl, by unfold maxLen; simp, fun j hj => absurd hj (by simp), fun o ho => absurd ho (by simp)⟩
  · cases hcs
    simp only [if_true] at hmm
    subst hmm
    have each : ∀ i, i < len' → ∃ o : ChV, (∀ f, f < 3 → W.cell? ((a.add (i * 3)).add f) = o.cells[f]?) ∧ o.key.size ≤ maxLen ∧ o.now.size ≤ maxLen := fun i hi => by
      obtain ⟨cs', h1, h2⟩ := hel i (by omega)
      obtain ⟨o, rfl, z1, z2⟩ := ch_of_trod h2
      rw [cellsCh] at h1
      obtain ⟨_, _, hc⟩ := World.cells?_some h1
      exact ⟨o, hc, z1, z2⟩
    haveI : Inhabited ChV := ⟨⟨⟨#[]⟩, false, ⟨#[]⟩⟩⟩
    obtain ⟨f, hfn⟩ := Deep.choose_lt each
    refine ⟨some a, _, (List.range len').map f, by simp; rfl, by simp; omega, fun j hj => ?_, fun o ho => ?_⟩
    · have hj' : j < len' := by simpa using hj
      obtain ⟨hc, _, _⟩ := hfn j hj'
      obtain ⟨b, off, spot⟩ := a
      have h0 := (hfn 0 (by omega)).1 0 (by omega)
      have hspot : spot = none := by simpa [Addr.add] using World.cell?_spot h0
      subst hspot
      have hc' : ∀ q, q < 3 → W.cell? ⟨b, off + j * 3 + q, none⟩ = (f j).cells[q]? := fun q hq => by
        have := hc q hq
        rwa [add_plain, add_plain] at this
      have e : ((List.range len').map f)[j] = f j := by simp
      rw [e]
      exact ⟨b, off, rfl, rcell_lt (hc' 0 (by omega)), hc' 0 (by omega), hc' 1 (by omega), hc' 2 (by omega)⟩
    · obtain ⟨i, hi, rfl⟩ := List.mem_map.1 ho
      exact ⟨(hfn i (List.mem_range.1 hi)).2.1, (hfn i (List.mem_range.1 hi)).2.2⟩
/-- Changes that come in. -/
def CameC (w : World) (ao : Option Addr) (l : List ChV) : Prop := l.length ≤ maxLen ∧ ChsAt w ao l ∧ SizedC maxLen l
set_option maxRecDepth 100000 in
theorem cameChs {H : Type} {enc : TypeId × Value → H} {W : World} {base : Nat} {v : Value} {d : DataW H} {p : List MemPlace} (hv : Value.okWide Try.prog W .any base 35 v) (h : DataW.Trod enc Try.prog W 0 (fun _ => true) true 35 v d p) :
    ∃ ao cap l, v = .slice ao l.length cap ∧ CameC W ao l := by
  obtain ⟨ao, len, cap, rfl⟩ := okWide_slice Try.underlying35 hv
  obtain ⟨fuel, hf⟩ := h
  have hf' : DataW.trod enc Try.prog W 0 (fun _ => true) true fuel 35 [Value.slice ao len cap] = some (d, p) := by simpa [Value.cells] using hf
  exact chs_of_trod hf'
end Go.Proofs.Ytmidembbanlleag.OpR
