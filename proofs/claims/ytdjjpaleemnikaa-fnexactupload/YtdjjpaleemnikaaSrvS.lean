/- Proves what spec.ServerRight answers. -/
import Derived.Test.YtdjjpaleemnikaaSgZ
import Derived.Test.YtdjjpaleemnikaaCliS
import Derived.Test.YtdjjpaleemnikaaClsA
namespace Go.Proofs.Ytdjjpaleemnikaa.OpR
open Go.ChangeShapes Go.WideShapes Go.ChangeAt Go.RowKit
set_option linter.unusedVariables false

/-- What is asked of one of the seen. -/
def SeenFine (s : SrvV) (j : Nat) : Prop := ∀ h : j < s.seen.length, 1 ≤ s.seen[j].many ∧ s.seen[j].many = ((ownB s.ops s.seen[j].repl).length : Int) ∧ rises (ownB s.ops s.seen[j].repl) = true ∧ ∀ i (hi : i < s.seen.length), i + 1 = j → s.seen[i].repl < s.seen[j].repl
theorem adj_pw : ∀ (l : List SeenV) (k : Nat), (∀ i (h : i + 1 < l.length), i + 1 < k → l[i].repl < l[i + 1].repl) → (l.take k).Pairwise fun a b => a.repl < b.repl
  | [], k, _ => by simp
  | [x], k, _ => by cases k <;> simp
  | x :: y :: l, 0, _ => by simp
  | x :: y :: l, 1, _ => by simp
  | x :: y :: l, k + 2, h => by
    have ih := adj_pw (y :: l) (k + 1) (fun i hi hk => h (i + 1) (by simpa using hi) (by omega))
    rw [List.take_succ_cons]
    refine List.pairwise_cons.2 ⟨fun z hz => ?_, ih⟩
    have hxy := h 0 (by simp) (by omega)
    rw [List.take_succ_cons] at hz ih
    rcases List.mem_cons.1 hz with rfl | hz
    · exact hxy
    · have := (List.pairwise_cons.1 ih).1 z hz
      have hxy' : x.repl < y.repl := hxy
      omega
theorem fine_pw {s : SrvV} {k : Nat} (h : ∀ j, j < k → SeenFine s j) : (s.seen.take k).Pairwise fun a b => a.repl < b.repl :=
  adj_pw _ _ fun i hi hk => (h (i + 1) hk hi).2.2.2 i (by omega) rfl
theorem fine_many {s : SrvV} {k : Nat} (h : ∀ j, j < k → SeenFine s j) : ∀ x ∈ s.seen.take k, 1 ≤ x.many ∧ x.many = ((ownB s.ops x.repl).length : Int) ∧ Strict (ownB s.ops x.repl) := by
  intro x hx
  obtain ⟨j, hj, rfl⟩ := List.getElem_of_mem hx
  rw [List.getElem_take]
  have hj' := hj
  rw [List.length_take] at hj'
  obtain ⟨a, b, c, _⟩ := h j (by omega) (by omega)
  exact ⟨a, b, rises_strict ((rises_iff _).1 c)⟩
theorem fine_sum {s : SrvV} {k : Nat} (h : ∀ j, j < k → SeenFine s j) : 0 ≤ sumS (s.seen.take k) ∧ sumS (s.seen.take k) ≤ s.ops.length := by
  refine ⟨?_, sum_le (fine_pw h) (fun x hx => (fine_many h x hx).2.1)⟩
  rw [sum_is (fine_pw h) (fun x hx => (fine_many h x hx).2.1)]
  omega
theorem sum_take {l : List SeenV} {k : Nat} (h : k < l.length) : sumS (l.take (k + 1)) = sumS (l.take k) + l[k].many := by
  rw [List.take_add_one, List.getElem?_eq_getElem h]
  exact sumS_app _ _
theorem not_fine {s : SrvV} {k : Nat} (hk : k < s.seen.length) (h : ¬ SeenFine s k) : srvRight s = false := srv_no fun hr => h fun hk => by
  obtain ⟨a, b, c⟩ := hr.many _ (List.getElem_mem hk)
  exact ⟨a, b, rises_yes (strict_rises c), fun i hi e => List.pairwise_iff_getElem.1 hr.rise i k hi hk (by omega)⟩
theorem fine_end {s : SrvV} (hO : opsRight s.ops = true) (h : ∀ j, j < s.seen.length → SeenFine s j) : srvRight s = decide (sumS s.seen = (s.ops.length : Int)) := by
  have e := List.take_length (l := s.seen)
  have h1 := fine_pw h
  have h2 := fine_many h
  rw [e] at h1 h2
  by_cases hs : sumS s.seen = (s.ops.length : Int)
  · rw [decide_eq_true hs]
    exact srv_yes ⟨(ops_iff _).1 hO, h2, h1, hs⟩
  · rw [decide_eq_false hs]
    exact srv_no fun hr => hs hr.all
/-- A server, one of the seen, and its own ops. -/
structure SX (w W : World) (s : SrvV) (la : Option Addr) (lc : Nat) (sa : Option Addr) (sc X : Nat) (x : SeenV) (g : Nat) (own : List OpV) : Prop where
  sb : SB w W s la lc sa sc
  x : W.heap[X]? = some (.cells #[.int .i64 x.repl, .int .i64 x.many] 67 (0, 0))
  own : OpsAt W (some ⟨g, 0, none⟩) own
theorem SX.step {w W W' : World} {s : SrvV} {la : Option Addr} {lc : Nat} {sa : Option Addr} {sc X : Nat} {x : SeenV} {g : Nat} {own : List OpV} (h : SX w W s la lc sa sc X x g own) (hb : Below W.heap.size W W') : SX w W' s la lc sa sc X x g own :=
  ⟨h.sb.step hb, (hb.block _ (Array.getElem?_eq_some_iff.1 h.x).1).trans h.x, h.own.stays hb⟩
set_option maxRecDepth 100000 in
set_option maxHeartbeats 2000000 in
theorem sSrv_any (s : SrvV) (la sa : Option Addr) (lc sc : Nat) (w : World) (hl : s.ops.length ≤ maxLen) (hz : Sized s.ops) (hs : s.seen.length ≤ 1048576) (hA : OpsAt w la s.ops) (hB : SeensAt w sa s.seen) :
    Calls Try.prog 25 #[s.agg la lc sa sc] w fun e w' => e = .returned (.bool (srvRight s)) ∧ Below w.heap.size w w' := by
  have ho := fun W (hW : Below w.heap.size w W) => sOps_any s.ops la lc W hl (hA.stays hW) hz
  have hb0 := SB.new w s la lc sa sc
  have HB0 := hide hb0
  obtain ⟨p0, p1⟩ := hb0.cells
  unfold SrvV.agg
  cases hor : opsRight s.ops
  · have HF : Hid (srvRight s = false) := ⟨by simp [srvRight, hor]⟩
    rw [hor] at ho
    have HO := hide ho
    clear ho hb0 hA hB hz
    go_enter Try.func25, Try.ntmps25
    go_wp2_with (first | (go_at_call 26; refine (HO.out _ HB0.out.below).mono ?_; rintro e w1 ⟨rfl, hb1⟩; have HB1 := hide (HB0.out.step hb1)) | fail)
    go_ret
    exact ⟨ret_bool HF.out.symm, HB1.out.below⟩
  · have hl150 := ((ops_iff _).1 hor).1
    have how := fun r W (hW : Below w.heap.size w W) => sOwn_any s.ops la lc r W hl150 (hA.stays hW)
    have hri := fun r g cap W (hg : OpsAt W (some ⟨g, 0, none⟩) (ownB s.ops r)) => rises_any (ownB s.ops r) (some ⟨g, 0, none⟩) cap W (by have := own_len s.ops r; unfold maxLen; omega) hg
    rw [hor] at ho
    have HO := hide ho
    have HOw := hide how
    have HRi0 := hide hri
    have HB := hide hB
    have HOr := hide hor
    clear ho hb0 hA hB hz how hri hor
    go_enter Try.func25, Try.ntmps25
    go_wp2_with (first | (go_at_call 26; refine (HO.out _ HB0.out.below).mono ?_; rintro e w1 ⟨rfl, hb1⟩; have HB1 := hide (HB0.out.step hb1); clear p0 p1 hb1; obtain ⟨p0, p1⟩ := HB1.out.cells) | fail)
    clear p0 p1
    go_loopw [3, 4] (fun a i wr => ∃ k : Nat, k ≤ s.seen.length ∧ i = .int .i64 k ∧ a = .int .i64 (sumS (s.seen.take k)) ∧ (∀ j, j < k → SeenFine s j) ∧ SB w wr s la lc sa sc) (fun _ i _ => s.seen.length - (intOf i).toNat)
    case atStart => exact ⟨0, by omega, rfl, rfl, fun j hj => by omega, HB1.out⟩
    case round =>
      obtain ⟨k, hk, rfl, rfl, hal, hSB⟩ := hrel
      have HL := hide hal
      have HSB := hide hSB
      obtain ⟨p0, p1⟩ := hSB.cells
      have hsum := fine_sum hal
      obtain ⟨T, hT⟩ : ∃ T, T = sumS (s.seen.take k) := ⟨_, rfl⟩
      rw [← hT] at hsum ⊢
      have HT := hide hT
      clear hal hSB hT
      by_cases h : k < s.seen.length
      · obtain ⟨b, off, rfl, hlt, hs0⟩ := HB.out k h
        obtain ⟨c0, c1⟩ := hs0.block (w' := wr) (HSB.out.below.block b hlt)
        have hi0 : (0 : Int) ≤ (k : Int) := by omega
        have hi1 : (k : Int) < (s.seen.length : Int) := by omega
        have hbn := (Below.refl wr.heap.size wr).alloc (Nat.le_refl _) (.cells #[.int .i64 s.seen[k].repl, .int .i64 s.seen[k].many] 67)
        have HBn := hide (HSB.out.step hbn)
        have HX := hide (heap_alloc_new wr (.cells #[.int .i64 s.seen[k].repl, .int .i64 s.seen[k].many] 67))
        obtain ⟨p0', p1'⟩ := HBn.out.cells
        have hzz := HSB.out.lt
        clear hs0 hbn
        go_wp2_with (first | (go_at_call 31; refine (HOw.out _ _ HBn.out.below).mono ?_; rintro e w2 ⟨v2, rfl, ho2, hb2⟩; obtain ⟨g2, cap2, rfl, hg2, hlt2, hcap2, hcm2, hat2⟩ := ho2.at; have hS2 : SX w w2 s la lc (some ⟨b, off, none⟩) sc wr.heap.size s.seen[k] g2 (ownB s.ops s.seen[k].repl) := ⟨HBn.out.step hb2, (hb2.block _ (by simp)).trans HX.out, hat2⟩; have HS2 := hide hS2; clear p0 p1 p0' p1' c0 c1 ho2 hb2 hat2; obtain ⟨p0, p1⟩ := hS2.sb.cells; obtain ⟨x0, x1, _⟩ := two hS2.x; clear hS2) | fail)
        have hown := own_len s.ops s.seen[k].repl
        have hri := fun W (hg : OpsAt W (some ⟨g2, 0, none⟩) (ownB s.ops s.seen[k].repl)) => HRi0.out s.seen[k].repl g2 cap2 W hg
        obtain ⟨own, how⟩ : ∃ own, own = ownB s.ops s.seen[k].repl := ⟨_, rfl⟩
        rw [← how] at HS2 hown hri ⊢
        have HOwn := hide how
        by_cases h1 : s.seen[k].many < 1
        · have d1 : decide (s.seen[k].many < 1) = true := by simpa using h1
          have H1 := hide h1
          clear hri how h1
          go_quiet (fail)
          go_wp2
          go_ret
          exact ⟨ret_bool (not_fine h (fun hf => by have := (hf h).1; have := H1.out; omega)).symm, (HS2.out.step (drewN_below w2 nq)).sb.below⟩
        by_cases h2 : s.seen[k].many = (own.length : Int)
        rotate_left
        · have d1 : decide (s.seen[k].many < 1) = false := by simpa using h1
          have d2 : (s.seen[k].many != (own.length : Int)) = true := by simpa using h2
          have H2 := hide h2
          clear hri how h1 h2
          go_quiet (fail)
          go_wp2
          go_ret
          exact ⟨ret_bool (not_fine h (fun hf => H2.out (by rw [HOwn.out]; exact (hf h).2.1))).symm, (HS2.out.step (drewN_below w2 nq)).sb.below⟩
        have d1 : decide (s.seen[k].many < 1) = false := by simpa using h1
        have d2 : (s.seen[k].many != (own.length : Int)) = false := by simpa using h2
        have h1' : 1 ≤ s.seen[k].many := by omega
        have X0 : ∀ q : (ClsW fun W => SX w W s la lc (some ⟨b, off, none⟩) sc wr.heap.size s.seen[k] g2 own), q.wd.cell? ⟨wr.heap.size, 0, none⟩ = some (.int .i64 s.seen[k].repl) := fun q => (two q.ok.x).1
        have X1 : ∀ q : (ClsW fun W => SX w W s la lc (some ⟨b, off, none⟩) sc wr.heap.size s.seen[k] g2 own), q.wd.cell? ⟨wr.heap.size, 1, none⟩ = some (.int .i64 s.seen[k].many) := fun q => (two q.ok.x).2.1
        have P1 : ∀ q : (ClsW fun W => SX w W s la lc (some ⟨b, off, none⟩) sc wr.heap.size s.seen[k] g2 own), q.wd.cell? ⟨w.heap.size, 1, none⟩ = some (.slice (some ⟨b, off, none⟩) s.seen.length sc) := fun q => q.ok.sb.cells.2
        have HSd := hide (HS2.out.step (Below.refl _ w2).drew)
        haveI : Nonempty (ClsW fun W => SX w W s la lc (some ⟨b, off, none⟩) sc wr.heap.size s.seen[k] g2 own) := ⟨⟨_, HS2.out⟩⟩
        have hmany : s.seen[k].many = ((ownB s.ops s.seen[k].repl).length : Int) := by rw [← how]; exact h2
        cases hr : rises own
        · rw [hr] at hri
          have HRi := hide hri
          have HR := hide hr
          clear hri how hr p0 p1 x0 x1 h1 h2 hmany
          refine region_class (ι := (ClsW fun W => SX w W s la lc (some ⟨b, off, none⟩) sc wr.heap.size s.seen[k] g2 own)) ClsW.wd (by kernel_rfl) (by kernel_rfl) ⟨_, HSd.out⟩ rfl ?_
          repeat (go_big_quiet_step (first | (go_at_call 27; rename_i q; refine (HRi.out _ q.ok.own).mono ?_; rintro e w4 ⟨rfl, hw4⟩; exact ⟨rfl, ⟨w4, q.ok.step hw4⟩, rfl⟩)))
          refine wpQuiet_nil ?_
          rintro _ ⟨⟨w5, hV5⟩, rfl⟩
          have HV5 := hide hV5
          have hx5 := hV5.x
          clear hV5 X0 X1 P1
          obtain ⟨y0, y1, _⟩ := two hx5
          clear hx5
          go_wp2
          go_ret
          exact ⟨ret_bool (not_fine h (fun hf => by have h3 := (hf h).2.2.1; rw [← HOwn.out, HR.out] at h3; cases h3)).symm, HV5.out.sb.below⟩
        rw [hr] at hri
        have HRi := hide hri
        have HOw2 : Hid (s.seen[k].many = ((ownB s.ops s.seen[k].repl).length : Int) ∧ rises (ownB s.ops s.seen[k].repl) = true) := ⟨⟨hmany, by rw [← how]; exact hr⟩⟩
        have hsm : wrap64 (T + s.seen[k].many) = T + s.seen[k].many := by
          have h3 := sum_take (l := s.seen) h
          unfold wrap64
          omega
        have HSM := hide hsm
        clear hri how hr p0 p1 x0 x1 h1 h2 hmany hsm
        by_cases h0 : k = 0
        · have d4 : decide (0 < k) = false := by simp; omega
          have H0 := hide h0
          clear h0
          refine region_class (ι := (ClsW fun W => SX w W s la lc (some ⟨b, off, none⟩) sc wr.heap.size s.seen[k] g2 own)) ClsW.wd (by kernel_rfl) (by kernel_rfl) ⟨_, HSd.out⟩ rfl ?_
          repeat (go_big_quiet_step (first | (go_at_call 27; rename_i q; refine (HRi.out _ q.ok.own).mono ?_; rintro e w4 ⟨rfl, hw4⟩; exact ⟨rfl, ⟨w4, q.ok.step hw4⟩, rfl⟩)))
          refine wpQuiet_nil ?_
          rintro _ ⟨⟨w5, hV5⟩, rfl⟩
          have HV5 := hide hV5
          have hx5 := hV5.x
          clear hV5 X0 X1 P1
          obtain ⟨y0, y1, _⟩ := two hx5
          clear hx5
          have hsm := HSM.out
          go_wp2
          go_roundw
          case rel =>
            have hfk : SeenFine s k := fun _ => ⟨by omega, HOw2.out.1, HOw2.out.2, fun i hi e => by have := H0.out; omega⟩
            refine ⟨k + 1, by omega, by go_num, by rw [sum_take h, hsm, ← HT.out], fun j hj => ?_, HV5.out.sb⟩
            rcases Nat.lt_or_ge j k with h' | h'
            · exact HL.out j h'
            · obtain rfl : j = k := by omega
              exact hfk
          case measure => simp [intOf]; omega
        obtain ⟨j, hj⟩ : ∃ j, k = j + 1 := ⟨k - 1, by omega⟩
        have hjl : j < s.seen.length := by omega
        have d4 : decide (0 < k) = true := by simp; omega
        have hkj : wrap64 ((k : Int) - 1) = (j : Int) := by unfold wrap64; omega
        have hkj2 : IntKind.i64.wrap ((k : Int) - 1) = (j : Int) := by rw [IntKind.wrap_i64]; omega
        have hj0 : (0 : Int) ≤ (j : Int) := by omega
        have hj1 : (j : Int) < (s.seen.length : Int) := by omega
        obtain ⟨b', off', eb, hltj, hsj⟩ := HB.out j hjl
        cases eb
        have HJ := hide hj
        have Y0 : ∀ q : (ClsW fun W => SX w W s la lc (some ⟨b, off, none⟩) sc wr.heap.size s.seen[k] g2 own), q.wd.cell? ⟨b, off + j * 2, none⟩ = some (.int .i64 s.seen[j].repl) := fun q => (hsj.block (q.ok.sb.below.block b hltj)).1
        by_cases h5 : s.seen[k].repl ≤ s.seen[j].repl
        · have d5 : decide (s.seen[k].repl ≤ s.seen[j].repl) = true := by simpa using h5
          have H5 := hide h5
          clear hsj h5 h0 hj
          refine region_class (ι := (ClsW fun W => SX w W s la lc (some ⟨b, off, none⟩) sc wr.heap.size s.seen[k] g2 own)) ClsW.wd (by kernel_rfl) (by kernel_rfl) ⟨_, HSd.out⟩ rfl ?_
          repeat (go_big_quiet_step (first | (go_at_call 27; rename_i q; refine (HRi.out _ q.ok.own).mono ?_; rintro e w4 ⟨rfl, hw4⟩; exact ⟨rfl, ⟨w4, q.ok.step hw4⟩, rfl⟩)))
          refine wpQuiet_nil ?_
          rintro _ ⟨⟨w5, hV5⟩, rfl⟩
          have HV5 := hide hV5
          have hx5 := hV5.x
          clear hV5 X0 X1 P1
          obtain ⟨y0, y1, _⟩ := two hx5
          clear hx5
          go_wp2
          go_ret
          exact ⟨ret_bool (not_fine h (fun hf => by have h3 := (hf h).2.2.2 j hjl HJ.out.symm; have := H5.out; omega)).symm, HV5.out.sb.below⟩
        · have d5 : decide (s.seen[k].repl ≤ s.seen[j].repl) = false := by simpa using h5
          have H5 := hide h5
          clear hsj h5 h0 hj
          refine region_class (ι := (ClsW fun W => SX w W s la lc (some ⟨b, off, none⟩) sc wr.heap.size s.seen[k] g2 own)) ClsW.wd (by kernel_rfl) (by kernel_rfl) ⟨_, HSd.out⟩ rfl ?_
          repeat (go_big_quiet_step (first | (go_at_call 27; rename_i q; refine (HRi.out _ q.ok.own).mono ?_; rintro e w4 ⟨rfl, hw4⟩; exact ⟨rfl, ⟨w4, q.ok.step hw4⟩, rfl⟩)))
          refine wpQuiet_nil ?_
          rintro _ ⟨⟨w5, hV5⟩, rfl⟩
          have HV5 := hide hV5
          have hx5 := hV5.x
          clear hV5 X0 X1 P1
          obtain ⟨y0, y1, _⟩ := two hx5
          clear hx5
          have hsm := HSM.out
          go_wp2
          go_roundw
          case rel =>
            have hfk : SeenFine s k := fun _ => ⟨by omega, HOw2.out.1, HOw2.out.2, fun i hi e => by (obtain rfl : i = j := (by have := HJ.out; omega)); have := H5.out; omega⟩
            refine ⟨k + 1, by omega, by go_num, by rw [sum_take h, hsm, ← HT.out], fun j hj => ?_, HV5.out.sb⟩
            rcases Nat.lt_or_ge j k with h' | h'
            · exact HL.out j h'
            · obtain rfl : j = k := by omega
              exact hfk
          case measure => simp [intOf]; omega
      · obtain rfl : k = s.seen.length := by omega
        have hrw := fine_end HOr.out HL.out
        have HF := hide hrw
        have hTe := HT.out
        rw [List.take_length] at hTe
        rw [← hTe] at HF
        clear hrw hTe
        go_wp2
        go_ret
        exact ⟨ret_bool (by rw [HF.out]; by_cases hh : T = (s.ops.length : Int) <;> simp [hh]), HSB.out.below⟩
end Go.Proofs.Ytdjjpaleemnikaa.OpR
