/- Proves what the harness' marks do to a row of ops. -/
import Derived.Test.YtfkgmkcndchkjaaGreatDoorOpH
import Derived.Test.YtfkgmkcndchkjaaGreatDoorOpL
import Derived.Test.YtfkgmkcndchkjaaGreatDoorMark
namespace Go.Proofs.YtfkgmkcndchkjaaGreatDoor.OpR
open Go.ChangeShapes Go.WideShapes Go.ChangeAt Go.RowKit
set_option linter.unusedVariables false

/-- An op that is marked from k on. -/
def mk (k : Nat) : OpV := ⟨(k : Int), (k : Int) + 1, (k : Int) + 1 + 1, (k : Int) + 1 + 1 + 1, (k : Int) + 1 + 1 + 1 + 1, mt (k + 5), mt (k + 6)⟩
def marks (k n : Nat) : List OpV := (List.range n).map fun j => mk (k + 7 * j)
theorem marks_len (k n : Nat) : (marks k n).length = n := by simp [marks]
theorem marks_get {k n j : Nat} (h : j < (marks k n).length) : (marks k n)[j] = mk (k + 7 * j) := by simp [marks]

/-- A block of cells, none frozen. -/
def RowB (w : World) (b : Nat) (T : TypeId) (n : Nat) : Prop := ∃ cs, w.heap[b]? = some (.cells cs T (0, 0)) ∧ cs.size = n
theorem RowB.lt {w : World} {b : Nat} {T : TypeId} {n : Nat} (h : RowB w b T n) : b < w.heap.size := by
  obtain ⟨cs, e, _⟩ := h
  exact (Array.getElem?_eq_some_iff.1 e).1
theorem RowB.cell {w : World} {b : Nat} {T : TypeId} {n : Nat} (h : RowB w b T n) {i : Nat} (hi : i < n) : ∃ v, w.cell? ⟨b, i, none⟩ = some v := by
  obtain ⟨cs, e, rfl⟩ := h
  exact ⟨cs[i], by simp [World.cell?, e, hi]⟩
theorem RowB.free {w : World} {b : Nat} {T : TypeId} {n : Nat} (h : RowB w b T n) (i : Nat) : w.frozen? ⟨b, i, none⟩ = false := by
  obtain ⟨cs, e, _⟩ := h
  simp [World.frozen?, e]
theorem RowB.set {w : World} {b : Nat} {T : TypeId} {n : Nat} (h : RowB w b T n) (i : Nat) (v : Value) : RowB (w.setCell ⟨b, i, none⟩ v) b T n := by
  obtain ⟨cs, e, rfl⟩ := h
  exact ⟨_, set_block e i v, by simp⟩
theorem RowB.below {w w' : World} {b : Nat} {T : TypeId} {n : Nat} (h : RowB w b T n) (hb : Below w.heap.size w w') : RowB w' b T n := by
  have hlt := h.lt
  obtain ⟨cs, e, hn⟩ := h
  exact ⟨cs, (hb.block b hlt).trans e, hn⟩
theorem OpAt.other {w : World} {b p q : Nat} {o : OpV} {v : Value} (h : OpAt w b p o) (hne : q < p ∨ p + 7 ≤ q) : OpAt (w.setCell ⟨b, q, none⟩ v) b p o := by
  obtain ⟨h0, h1, h2, h3, h4, h5, h6⟩ := h
  have e : ∀ i, i < 7 → (w.setCell ⟨b, q, none⟩ v).cell? ⟨b, p + i, none⟩ = w.cell? ⟨b, p + i, none⟩ := fun i hi => World.cell?_setCell_other w ⟨b, q, none⟩ ⟨b, p + i, none⟩ v (by intro e; injection e; omega)
  exact ⟨(e 0 (by omega)).trans h0, (e 1 (by omega)).trans h1, (e 2 (by omega)).trans h2, (e 3 (by omega)).trans h3, (e 4 (by omega)).trans h4, (e 5 (by omega)).trans h5, (e 6 (by omega)).trans h6⟩

theorem setc_same {w : World} {b N i : Nat} {T : TypeId} {v : Value} (h : RowB w b T N) (hi : i < N) : (w.setCell ⟨b, i, none⟩ v).cell? ⟨b, i, none⟩ = some v := by
  obtain ⟨u, hu⟩ := h.cell hi
  exact World.cell?_setCell_same w ⟨b, i, none⟩ v hu
theorem setc_other {w : World} {b i j : Nat} {v : Value} (h : j ≠ i) : (w.setCell ⟨b, j, none⟩ v).cell? ⟨b, i, none⟩ = w.cell? ⟨b, i, none⟩ :=
  World.cell?_setCell_other w ⟨b, j, none⟩ ⟨b, i, none⟩ v (by intro e; injection e; omega)
theorem grown_set (W : World) (b i : Nat) (v : Value) : W.grownBy (W.setCell ⟨b, i, none⟩ v) (some b) :=
  ⟨rfl, rfl, rfl, by simp, fun k hk hne => heap_setCell_other W ⟨b, i, none⟩ k v (fun e => hne (by rw [e]))⟩
theorem grown_refl (W : World) (r : Option Nat) : W.grownBy W r := ⟨rfl, rfl, rfl, Nat.le_refl _, fun _ _ _ => rfl⟩
theorem grown_trans {a b c : World} {r : Option Nat} (h : a.grownBy b r) (k : b.grownBy c r) : a.grownBy c r :=
  ⟨k.os.trans h.os, k.tape.trans h.tape, k.output.trans h.output, Nat.le_trans h.size k.size, fun i hi hn => (k.block i (Nat.lt_of_lt_of_le hi h.size) hn).trans (h.block i hi hn)⟩
theorem mk_below {a b : World} {r : Option Nat} (h : Below a.heap.size a b) : a.grownBy b r := ⟨h.os, h.tape, h.output, h.size, fun i hi _ => h.block i hi⟩

def five (wr : World) (b p : Nat) (v0 v1 v2 v3 v4 : Value) : World := ((((wr.setCell ⟨b, p, none⟩ v0).setCell ⟨b, p + 1, none⟩ v1).setCell ⟨b, p + 2, none⟩ v2).setCell ⟨b, p + 3, none⟩ v3).setCell ⟨b, p + 4, none⟩ v4
theorem five_row {wr : World} {b p N : Nat} {T : TypeId} {v0 v1 v2 v3 v4 : Value} (h : RowB wr b T N) : RowB (five wr b p v0 v1 v2 v3 v4) b T N := ((((h.set _ _).set _ _).set _ _).set _ _).set _ _
theorem five_grown {wr : World} {b p : Nat} {v0 v1 v2 v3 v4 : Value} : wr.grownBy (five wr b p v0 v1 v2 v3 v4) (some b) :=
  grown_trans (grown_trans (grown_trans (grown_trans (grown_set _ _ _ _) (grown_set _ _ _ _)) (grown_set _ _ _ _)) (grown_set _ _ _ _)) (grown_set _ _ _ _)
theorem five_cell {wr : World} {b p N : Nat} {T : TypeId} {v0 v1 v2 v3 v4 : Value} (h : RowB wr b T N) (hp : p + 5 ≤ N) :
    (five wr b p v0 v1 v2 v3 v4).cell? ⟨b, p, none⟩ = some v0 ∧ (five wr b p v0 v1 v2 v3 v4).cell? ⟨b, p + 1, none⟩ = some v1 ∧ (five wr b p v0 v1 v2 v3 v4).cell? ⟨b, p + 2, none⟩ = some v2 ∧ (five wr b p v0 v1 v2 v3 v4).cell? ⟨b, p + 3, none⟩ = some v3 ∧ (five wr b p v0 v1 v2 v3 v4).cell? ⟨b, p + 4, none⟩ = some v4 := by
  unfold five
  refine ⟨?_, ?_, ?_, ?_, ?_⟩
  · rw [setc_other (by omega), setc_other (by omega), setc_other (by omega), setc_other (by omega), setc_same h (by omega)]
  · rw [setc_other (by omega), setc_other (by omega), setc_other (by omega), setc_same (h.set _ _) (by omega)]
  · rw [setc_other (by omega), setc_other (by omega), setc_same ((h.set _ _).set _ _) (by omega)]
  · rw [setc_other (by omega), setc_same (((h.set _ _).set _ _).set _ _) (by omega)]
  · rw [setc_same ((((h.set _ _).set _ _).set _ _).set _ _) (by omega)]
theorem five_other {wr : World} {b p q : Nat} {o : OpV} {v0 v1 v2 v3 v4 : Value} (h : OpAt wr b q o) (hn : q + 7 ≤ p ∨ p + 7 ≤ q) : OpAt (five wr b p v0 v1 v2 v3 v4) b q o :=
  ((((h.other (by omega)).other (by omega)).other (by omega)).other (by omega)).other (by omega)
/-- What the seven stores of a mark leave. -/
theorem mark_done {wr w1 w2 : World} {b p N K : Nat} {T : TypeId} (h : RowB wr b T N) (hp : p + 7 ≤ N)
    (hb1 : Below (five wr b p (.int .i64 (K : Int)) (.int .i64 ((K : Int) + 1)) (.int .i64 ((K : Int) + 1 + 1)) (.int .i64 ((K : Int) + 1 + 1 + 1)) (.int .i64 ((K : Int) + 1 + 1 + 1 + 1))).heap.size (five wr b p (.int .i64 (K : Int)) (.int .i64 ((K : Int) + 1)) (.int .i64 ((K : Int) + 1 + 1)) (.int .i64 ((K : Int) + 1 + 1 + 1)) (.int .i64 ((K : Int) + 1 + 1 + 1 + 1))) w1)
    (hb2 : Below (w1.setCell ⟨b, p + 5, none⟩ (.string (mt (K + 5)))).heap.size (w1.setCell ⟨b, p + 5, none⟩ (.string (mt (K + 5)))) w2) :
    OpAt (w2.setCell ⟨b, p + 6, none⟩ (.string (mt (K + 6)))) b p (mk K) ∧ RowB (w2.setCell ⟨b, p + 6, none⟩ (.string (mt (K + 6)))) b T N ∧ wr.grownBy (w2.setCell ⟨b, p + 6, none⟩ (.string (mt (K + 6)))) (some b) ∧ ∀ q o, (q + 7 ≤ p ∨ p + 7 ≤ q) → OpAt wr b q o → OpAt (w2.setCell ⟨b, p + 6, none⟩ (.string (mt (K + 6)))) b q o := by
  have r5 := five_row (p := p) (v0 := .int .i64 (K : Int)) (v1 := .int .i64 ((K : Int) + 1)) (v2 := .int .i64 ((K : Int) + 1 + 1)) (v3 := .int .i64 ((K : Int) + 1 + 1 + 1)) (v4 := .int .i64 ((K : Int) + 1 + 1 + 1 + 1)) h
  have r1 := r5.below hb1
  have r6 := r1.set (p + 5) (.string (mt (K + 5)))
  have r2 := r6.below hb2
  obtain ⟨c0, c1, c2, c3, c4⟩ := five_cell (p := p) (v0 := .int .i64 (K : Int)) (v1 := .int .i64 ((K : Int) + 1)) (v2 := .int .i64 ((K : Int) + 1 + 1)) (v3 := .int .i64 ((K : Int) + 1 + 1 + 1)) (v4 := .int .i64 ((K : Int) + 1 + 1 + 1 + 1)) h (by omega)
  have e1 : ∀ i, w1.cell? ⟨b, i, none⟩ = (five wr b p (.int .i64 (K : Int)) (.int .i64 ((K : Int) + 1)) (.int .i64 ((K : Int) + 1 + 1)) (.int .i64 ((K : Int) + 1 + 1 + 1)) (.int .i64 ((K : Int) + 1 + 1 + 1 + 1))).cell? ⟨b, i, none⟩ := fun i => hb1.cell r5.lt
  have e2 : ∀ i, w2.cell? ⟨b, i, none⟩ = (w1.setCell ⟨b, p + 5, none⟩ (.string (mt (K + 5)))).cell? ⟨b, i, none⟩ := fun i => hb2.cell r6.lt
  refine ⟨⟨?_, ?_, ?_, ?_, ?_, ?_, ?_⟩, r2.set _ _, ?_, fun q o hn ho => ?_⟩
  · rw [setc_other (by omega), e2, setc_other (by omega), e1, c0]; rfl
  · rw [setc_other (by omega), e2, setc_other (by omega), e1, c1]; rfl
  · rw [setc_other (by omega), e2, setc_other (by omega), e1, c2]; rfl
  · rw [setc_other (by omega), e2, setc_other (by omega), e1, c3]; rfl
  · rw [setc_other (by omega), e2, setc_other (by omega), e1, c4]; rfl
  · rw [setc_other (by omega), e2, setc_same r1 (by omega)]; rfl
  · rw [setc_same r2 (by omega)]; rfl
  · exact grown_trans (grown_trans (grown_trans (grown_trans five_grown (mk_below hb1)) (grown_set _ _ _ _)) (mk_below hb2)) (grown_set _ _ _ _)
  · exact ((((five_other ho hn).block (hb1.block b r5.lt)).other (by omega)).block (hb2.block b r6.lt)).other (by omega)

set_option maxRecDepth 100000 in
set_option maxHeartbeats 400000 in
theorem markOpS_some (b off n cap k0 N : Nat) (T : TypeId) (w : World) (hn : n ≤ 1048576) (hk : 0 < k0) (hk2 : k0 ≤ 1099511627776 / 2) (hR : RowB w b T N) (hN : off + n * 7 ≤ N) :
    Calls Tryz.prog 50 #[.slice (some ⟨b, off, none⟩) n cap, .int .i64 (k0 : Int)] w fun e w' => e = .returned (.int .i64 ((k0 + 7 * n : Nat) : Int)) ∧ OpsAt w' (some ⟨b, off, none⟩) (marks k0 n) ∧ RowB w' b T N ∧ w.grownBy w' (some b) := by
  have HR : Hid (RowB w b T N) := ⟨hR⟩
  clear hR
  go_enter Tryz.func50, Tryz.ntmps50
  go_wp2
  go_loopw [1, 5] (fun kv i wr => ∃ j : Nat, j ≤ n ∧ i = .int .i64 j ∧ kv = .int .i64 ((k0 + 7 * j : Nat) : Int) ∧ (∀ q, q < j → OpAt wr b (off + q * 7) (mk (k0 + 7 * q))) ∧ RowB wr b T N ∧ w.grownBy wr (some b)) (fun _ i _ => n - (intOf i).toNat)
  case atStart => exact ⟨0, by omega, rfl, by go_num, fun q hq => by omega, HR.out, grown_refl _ _⟩
  case round =>
    obtain ⟨j, hj, rfl, rfl, hm, hR, hg⟩ := hrel
    have HM : Hid (∀ q, q < j → OpAt wr b (off + q * 7) (mk (k0 + 7 * q))) := ⟨hm⟩
    have HR' : Hid (RowB wr b T N) := ⟨hR⟩
    clear hm hR
    obtain ⟨K, hK⟩ : ∃ K, k0 + 7 * j = K := ⟨_, rfl⟩
    have HK : Hid (k0 + 7 * j = K) := ⟨hK⟩
    have hK2 : K ≤ 1099511627770 := by omega
    have hK0 : 0 < K := by omega
    rw [hK]
    clear hK
    by_cases h : j < n
    · have hi0 : (0 : Int) ≤ (j : Int) := by omega
      have hi1 : (j : Int) < (n : Int) := by omega
      obtain ⟨v0, c0⟩ := HR'.out.cell (i := off + j * 7) (by omega)
      obtain ⟨v1, c1⟩ := HR'.out.cell (i := off + j * 7 + 1) (by omega)
      obtain ⟨v2, c2⟩ := HR'.out.cell (i := off + j * 7 + 2) (by omega)
      obtain ⟨v3, c3⟩ := HR'.out.cell (i := off + j * 7 + 3) (by omega)
      obtain ⟨v4, c4⟩ := HR'.out.cell (i := off + j * 7 + 4) (by omega)
      obtain ⟨v5, c5⟩ := HR'.out.cell (i := off + j * 7 + 5) (by omega)
      obtain ⟨v6, c6⟩ := HR'.out.cell (i := off + j * 7 + 6) (by omega)
      have f0 := HR'.out.free (off + j * 7)
      have f1 := HR'.out.free (off + j * 7 + 1)
      have f2 := HR'.out.free (off + j * 7 + 2)
      have f3 := HR'.out.free (off + j * 7 + 3)
      have f4 := HR'.out.free (off + j * 7 + 4)
      have f5 := HR'.out.free (off + j * 7 + 5)
      have f6 := HR'.out.free (off + j * 7 + 6)
      have hT5 : ∀ w, Calls Tryz.prog 82 #[.int .i64 ((K : Int) + 1 + 1 + 1 + 1 + 1)] w fun e w' => e = .returned (.string (mt (K + 5))) ∧ Below w.heap.size w w' := fun w => by
        rw [show (K : Int) + 1 + 1 + 1 + 1 + 1 = ((K + 5 : Nat) : Int) by omega]
        exact markText_any (K + 5) (by omega) (by omega) w
      have hT6 : ∀ w, Calls Tryz.prog 82 #[.int .i64 ((K : Int) + 1 + 1 + 1 + 1 + 1 + 1)] w fun e w' => e = .returned (.string (mt (K + 6))) ∧ Below w.heap.size w w' := fun w => by
        rw [show (K : Int) + 1 + 1 + 1 + 1 + 1 + 1 = ((K + 6 : Nat) : Int) by omega]
        exact markText_any (K + 6) (by omega) (by omega) w
      have H5 := five_row (p := off + j * 7) (v0 := .int .i64 (K : Int)) (v1 := .int .i64 ((K : Int) + 1)) (v2 := .int .i64 ((K : Int) + 1 + 1)) (v3 := .int .i64 ((K : Int) + 1 + 1 + 1)) (v4 := .int .i64 ((K : Int) + 1 + 1 + 1 + 1)) HR'.out
      have HF : Hid (RowB (five wr b (off + j * 7) (.int .i64 (K : Int)) (.int .i64 ((K : Int) + 1)) (.int .i64 ((K : Int) + 1 + 1)) (.int .i64 ((K : Int) + 1 + 1 + 1)) (.int .i64 ((K : Int) + 1 + 1 + 1 + 1))) b T N) := ⟨H5⟩
      clear H5
      go_wp2_with (first | (go_at_call 82; refine (hT5 _).mono ?_; rintro e w1 ⟨rfl, hb1⟩; have R1 := HF.out.below hb1; obtain ⟨x5, d5⟩ := R1.cell (i := off + j * 7 + 5) (by omega); have g5 := R1.free (off + j * 7 + 5); have HR1 : Hid (RowB w1 b T N) := ⟨R1⟩; clear hT5 R1 c0 c1 c2 c3 c4 c5 c6 f0 f1 f2 f3 f4 f5 f6) | (go_at_call 82; refine (hT6 _).mono ?_; rintro e w2 ⟨rfl, hb2⟩; have R2 := (HR1.out.set (off + j * 7 + 5) (.string (mt (K + 5)))).below hb2; obtain ⟨x6, d6⟩ := R2.cell (i := off + j * 7 + 6) (by omega); have g6 := R2.free (off + j * 7 + 6); clear hT6 R2 d5 g5))
      go_roundw
      case rel =>
        obtain ⟨k1, k2, k3, k4⟩ := mark_done HR'.out (p := off + j * 7) (by omega) hb1 hb2
        refine ⟨j + 1, by omega, by go_num, ?_, fun q hq => ?_, k2, grown_trans hg k3⟩
        · have := HK.out
          refine congrArg (Value.int .i64) ?_
          omega
        · rcases Nat.lt_or_ge q j with h' | h'
          · exact k4 _ _ (by omega) (HM.out q h')
          · obtain rfl : q = j := by omega
            rw [HK.out]
            exact k1
      case measure => simp [intOf]; omega
    · obtain rfl : j = n := by omega
      go_wp2
      go_ret
      refine ⟨by rw [← HK.out]; rfl, fun q hq => ?_, HR'.out, hg⟩
      rw [marks_get hq]
      rw [marks_len] at hq
      exact ⟨b, off, rfl, HR'.out.lt, HM.out q hq⟩
end Go.Proofs.YtfkgmkcndchkjaaGreatDoor.OpR
