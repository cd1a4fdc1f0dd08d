/- Proves what the harness does with what was seen: sizes, copies, comparisons; and what is known of it where it comes in. -/
import Derived.Test.YtdjjpaleemnikaaSnR
import Derived.Test.YtdjjpaleemnikaaTrS
import Derived.Test.YtdjjpaleemnikaaCameOp
import Derived.Test.YtdjjpaleemnikaaCameC
namespace Go.Proofs.Ytdjjpaleemnikaa.OpR
open Go.ChangeShapes Go.WideShapes Go.ChangeAt Go.RowKit
set_option linter.unusedVariables false

theorem InG.seenAt_ {w : World} {g : Nat} {T : TypeId} {l : List SeenV} (h : InG SeenV.cells w g T l) {k : Nat} (hk : k < l.length) : SeenAt w g (k * 2) l[k] :=
  ⟨h.cell seen_len hk (f := 0) (by omega) rfl, h.cell seen_len hk (f := 1) (by omega) rfl⟩
set_option maxRecDepth 100000 in
set_option maxHeartbeats 400000 in
theorem szSeenS_any (l : List SeenV) (ao : Option Addr) (cap : Nat) (left : Int) (w : World) (h0 : 0 ≤ left) (h1 : left ≤ 1048576) (hl : l.length ≤ maxLen) :
    Calls Try.prog 23 #[.slice ao l.length cap, .int .i64 left] w fun e w' => ∃ m : Int, e = .returned (.int .i64 m) ∧ m ≤ left ∧ (0 ≤ m → l.length ≤ 1048576) ∧ Below w.heap.size w w' := by
  unfold maxLen at hl
  have hwr : wrap64 (left - (l.length : Int)) = left - (l.length : Int) := by unfold wrap64; omega
  go_enter Try.func23, Try.ntmps23
  go_wp2
  · go_ret; exact ⟨-1, rfl, by omega, fun h => by omega, Below.refl _ _⟩
  · go_ret; exact ⟨_, rfl, by omega, fun h => by omega, Below.refl _ _⟩
theorem make_seens (n : Nat) (hn : n ≤ 1048576) (w : World) : (Instr.makeSlice 29 (.int .i64 (n : Int)) (.int .i64 (n : Int))).run Try.prog w = .ok (.slice (some ⟨w.heap.size, 0, none⟩) n n) (w.alloc (.cells (flatG SeenV.cells (List.replicate n SeenV.zero)).toArray 67)) := by
  obtain ⟨i, hi, hz⟩ := Option.map_eq_some_iff.1 infoSeen
  simp only [Prod.mk.injEq] at hz
  obtain ⟨hz, hs, hb⟩ := hz
  have h := run_make (P := Try.prog) w 29 67 i _ Try.underlying29 hi hz .i64 .i64 n n (by omega) (by omega) (by rw [hb]; omega) (by omega)
  simp only [Int.toNat_natCast, hs] at h
  rw [← made_cells seen_len (by omega) SeenV.zero n]
  exact h
set_option maxRecDepth 100000 in
set_option maxHeartbeats 400000 in
theorem toSeen_any (p : SeenV) (w : World) :
    Calls Try.prog 54 #[p.agg] w fun e w' => e = .returned p.agg ∧ Below w.heap.size w w' := by
  unfold SeenV.agg
  go_enter Try.func54, Try.ntmps54
  go_wp2
  exact bodyPost_ret (v := .agg #[.int .i64 p.repl, .int .i64 p.many]) (by simp [results, Try.results54, go_sem]) rfl ⟨rfl, (((Below.refl _ _).alloc (Nat.le_refl _) _).alloc (by simp) _).alloc (by simp; omega) _⟩
set_option maxRecDepth 100000 in
set_option maxHeartbeats 400000 in
theorem toSeenS_any (l : List SeenV) (ao : Option Addr) (cap : Nat) (w : World) (hl : l.length ≤ 1048576) (hA : SeensAt w ao l) :
    Calls Try.prog 35 #[.slice ao l.length cap] w fun e w' => e = .returned (.slice (some ⟨w.heap.size, 0, none⟩) l.length l.length) ∧ InG SeenV.cells w' w.heap.size 67 l ∧ Below w.heap.size w w' := by
  have HA : Hid (SeensAt w ao l) := ⟨hA⟩
  have hmk := make_seens l.length hl
  clear hA
  go_enter Try.func35, Try.ntmps35
  go_wp2
  go_loopw [4] (fun i wr => ∃ k : Nat, k ≤ l.length ∧ i = .int .i64 k ∧ InG SeenV.cells wr w.heap.size 67 (partG SeenV.zero (l.take k) l.length) ∧ Below w.heap.size w wr) (fun i _ => l.length - (intOf i).toNat)
  case atStart => exact ⟨0, by omega, rfl, by rw [List.take_zero, partG_nil]; exact heap_alloc_new w _, (Below.refl _ _).alloc (Nat.le_refl _) _⟩
  case round =>
    obtain ⟨k, hk, rfl, hO, hb⟩ := hrel
    have HO : Hid (InG SeenV.cells wr w.heap.size 67 (partG SeenV.zero (l.take k) l.length)) := ⟨hO⟩
    clear hO
    by_cases h : k < l.length
    · obtain ⟨b, off, rfl, hlt, ho⟩ := HA.out k h
      obtain ⟨c0, c1⟩ := ho.block (w' := wr) (hb.block b hlt)
      have hcall := toSeen_any l[k] wr
      unfold SeenV.agg at hcall
      have hi0 : (0 : Int) ≤ (k : Int) := by omega
      have hi1 : (k : Int) < (l.length : Int) := by omega
      have Hlen : Hid (k < (partG SeenV.zero (l.take k) l.length).length) := ⟨by rw [partG_len _ _ _ (by simp; omega)]; exact h⟩
      clear ho
      go_wp2_with (first | (go_at_call 54; refine hcall.mono ?_; rintro e w1 ⟨rfl, hb1⟩; obtain ⟨d0, d1⟩ := (HO.out.stays hb1).seenAt_ Hlen.out; have f0 := (HO.out.stays hb1).frozen (k * 2); have f1 := (HO.out.stays hb1).frozen (k * 2 + 1); clear c0 c1))
      go_roundw
      case rel =>
        have hst := (HO.out.stays hb1).store seen_len Hlen.out l[k]
        have e : (partG SeenV.zero (l.take k) l.length).set k l[k] = partG SeenV.zero (l.take (k + 1)) l.length := by
          have := partG_set SeenV.zero (l.take k) l.length l[k] (by simp; omega)
          rw [List.length_take, Nat.min_eq_left hk] at this
          rw [this, List.take_add_one, List.getElem?_eq_getElem h]; rfl
        rw [e] at hst
        exact ⟨k + 1, by omega, by go_num, hst, puts_below (Nat.le_refl _) l[k].cells (k * 2) w1 (hb.trans (hb1.mono hb.size))⟩
      case measure => simp [intOf]; omega
    · obtain rfl : k = l.length := by omega
      go_wp2
      go_ret
      have hO := HO.out
      rw [List.take_length, partG_all] at hO
      exact ⟨rfl, hO, hb⟩
set_option maxRecDepth 100000 in
set_option maxHeartbeats 400000 in
theorem eqSeen_same (p : SeenV) (w : World) :
    Calls Try.prog 66 #[p.agg, p.agg] w fun e w' => e = .returned (.bool true) ∧ Below w.heap.size w w' := by
  unfold SeenV.agg
  go_enter Try.func66, Try.ntmps66
  go_wp2
  go_ret
  exact ⟨rfl, ((Below.refl _ _).alloc (Nat.le_refl _) _).alloc (by simp) _⟩
set_option maxRecDepth 100000 in
set_option maxHeartbeats 400000 in
theorem eqSeenS_same (l : List SeenV) (ao1 ao2 : Option Addr) (cap1 cap2 : Nat) (w : World) (hl : l.length ≤ maxLen) (hA : SeensAt w ao1 l) (hC : SeensAt w ao2 l) :
    Calls Try.prog 43 #[.slice ao1 l.length cap1, .slice ao2 l.length cap2] w fun e w' => e = .returned (.bool true) ∧ Below w.heap.size w w' := by
  unfold maxLen at hl
  have HA : Hid (SeensAt w ao1 l) := ⟨hA⟩
  have HC : Hid (SeensAt w ao2 l) := ⟨hC⟩
  clear hA hC
  go_enter Try.func43, Try.ntmps43
  go_wp2
  go_loopw [5] (fun i wr => ∃ k : Nat, k ≤ l.length ∧ i = .int .i64 k ∧ Below w.heap.size w wr) (fun i _ => l.length - (intOf i).toNat)
  case atStart => exact ⟨0, by omega, rfl, Below.refl _ _⟩
  case round =>
    obtain ⟨k, hk, rfl, hb⟩ := hrel
    by_cases h : k < l.length
    · obtain ⟨b, off, rfl, hlt, ho⟩ := HA.out k h
      obtain ⟨c0, c1⟩ := ho.block (w' := wr) (hb.block b hlt)
      obtain ⟨b2, off2, rfl, hlt2, ho2⟩ := HC.out k h
      obtain ⟨d0, d1⟩ := ho2.block (w' := wr) (hb.block b2 hlt2)
      have hcall := eqSeen_same l[k] wr.drew
      unfold SeenV.agg at hcall
      have hi0 : (0 : Int) ≤ (k : Int) := by omega
      have hi1 : (k : Int) < (l.length : Int) := by omega
      clear ho ho2
      go_wp2
      go_region_with (go_at_call 66; refine hcall.mono ?_; rintro e w1 ⟨rfl, hb1⟩)
      all_goals (
        go_wp2
        go_roundw
        case rel => exact ⟨k + 1, by omega, by go_num, hb.drew.trans (hb1.mono hb.size)⟩
        case measure => simp [intOf]; omega)
    · obtain rfl : k = l.length := by omega
      go_wp2
      go_ret
      exact ⟨rfl, hb⟩
theorem cellsSn : Try.prog.cellsOf 92 = 2 := by kernel_rfl
section
variable {H : Type} {enc : TypeId × Value → H} {w : World} {base : Nat} {spare : Nat → Bool} {held : Bool}
set_option maxRecDepth 100000 in
theorem seen_of_trod {fuel : Nat} {cs : List Value} {x : DataW H × List MemPlace} (h : DataW.trod enc Try.prog w base spare held fuel 92 cs = some x) :
    ∃ o : SeenV, cs = o.cells := by
  obtain ⟨xs, n, _, _, hl, hlen, hf⟩ := DataW.trod_struct Try.underlying92 h
  rw [cellsSn] at hl
  match cs, hl with
  | [c0, c1], _ =>
  match xs, hlen with
  | [x0, x1], _ =>
  have h0 : DataW.trod enc Try.prog w base spare held n 2 [c0] = some x0 := by
    have h : DataW.trod enc Try.prog w base spare held n 2 (([c0, c1].drop 0).take (Try.prog.cellsOf 2)) = some x0 := hf 0 _ rfl
    rw [cellsI] at h
    exact h
  have h1 : DataW.trod enc Try.prog w base spare held n 2 [c1] = some x1 := by
    have h : DataW.trod enc Try.prog w base spare held n 2 (([c0, c1].drop 1).take (Try.prog.cellsOf 2)) = some x1 := hf 1 _ rfl
    rw [cellsI] at h
    exact h
  obtain ⟨n0, e0, _⟩ := DataW.trod_int Try.underlying2 h0
  obtain ⟨n1, e1, _⟩ := DataW.trod_int Try.underlying2 h1
  cases e0; cases e1
  exact ⟨⟨n0, n1⟩, rfl⟩
end
set_option maxRecDepth 100000 in
theorem seens_of_trod {H : Type} {enc : TypeId × Value → H} {W : World} {fuel : Nat} {c : Value} {x : DataW H × List MemPlace} (hf : DataW.trod enc Try.prog W 0 (fun _ => true) true fuel 23 [c] = some x) :
    ∃ ao cap l, c = .slice ao (List.length l) cap ∧ l.length ≤ maxLen ∧ SeensAt W ao l := by
  rcases Deep.open_slice Try.underlying23 hf with ⟨hcs, hx⟩ | ⟨a, len', cap', m, n, D, Pl, hcs, _, hl, hm, hmm, hx, hel⟩
  · cases hcs
    exact ⟨none, 0, [], rfl, by unfold maxLen; simp, fun j hj => absurd hj (by simp)⟩
  · cases hcs
    simp only [if_true] at hmm
    subst hmm
    have each : ∀ i, i < len' → ∃ o : SeenV, (∀ f, f < 2 → W.cell? ((a.add (i * 2)).add f) = o.cells[f]?) := fun i hi => by
      obtain ⟨cs', h1, h2⟩ := hel i (by omega)
      obtain ⟨o, rfl⟩ := seen_of_trod h2
      rw [cellsSn] at h1
      obtain ⟨_, _, hc⟩ := World.cells?_some h1
      exact ⟨o, hc⟩
    haveI : Inhabited SeenV := ⟨⟨0, 0⟩⟩
    obtain ⟨f, hfn⟩ := Deep.choose_lt each
    refine ⟨some a, _, (List.range len').map f, by simp; rfl, by simp; omega, fun j hj => ?_⟩
    have hj' : j < len' := by simpa using hj
    have hc := hfn j hj'
    obtain ⟨b, off, spot⟩ := a
    have h0 := (hfn 0 (by omega)) 0 (by omega)
    have hspot : spot = none := by simpa [Addr.add] using World.cell?_spot h0
    subst hspot
    have hc' : ∀ q, q < 2 → W.cell? ⟨b, off + j * 2 + q, none⟩ = (f j).cells[q]? := fun q hq => by
      have := hc q hq
      rwa [add_plain, add_plain] at this
    have e : ((List.range len').map f)[j] = f j := by simp
    rw [e]
    exact ⟨b, off, rfl, cell_lt' (hc' 0 (by omega)), hc' 0 (by omega), hc' 1 (by omega)⟩
end Go.Proofs.Ytdjjpaleemnikaa.OpR
