/- Proves what impl.seenIn makes of ops that come one by one. -/
import Derived.Test.YtdjjpaleemnikaaSgW
namespace Go.Proofs.Ytdjjpaleemnikaa.OpR
open Go.ChangeShapes Go.WideShapes Go.ChangeAt Go.RowKit
set_option linter.unusedVariables false

theorem putOp_len (m : List (Int × SgtV)) (o : OpV) : (sgPutOp m o).length ≤ m.length + 1 := by
  unfold sgPutOp sgPut
  rw [sgIns_len]
  have := List.length_filter_le (fun p : Int × SgtV => !decide (p.1 = o.repl)) m
  unfold sgDel
  omega
theorem putOp_of (m : List (Int × SgtV)) (o : OpV) (r : Int) : sgOf (sgPutOp m o) r = if r = o.repl then ⟨(sgOf m o.repl).many + 1, o⟩ else sgOf m r := by
  by_cases h : r = o.repl
  · subst h
    rw [if_pos rfl]
    unfold sgPutOp
    rw [sgOf, sgAt_put_same]
    rfl
  · rw [if_neg h]
    unfold sgPutOp
    rw [sgOf, sgAt_put_other _ _ h]
    rfl
/-- What the map keeps to while ops come. -/
def SgFew (m : List (Int × SgtV)) (k : Nat) : Prop := m.length ≤ k ∧ ∀ r, 0 ≤ (sgOf m r).many ∧ (sgOf m r).many ≤ (k : Int)
theorem SgFew.nil : SgFew [] 0 := ⟨Nat.le_refl _, fun r => by simp [sgOf, sgAt, SgtV.zero]⟩
theorem SgFew.put {m : List (Int × SgtV)} {k : Nat} (h : SgFew m k) (o : OpV) : SgFew (sgPutOp m o) (k + 1) := by
  refine ⟨Nat.le_trans (putOp_len m o) (Nat.succ_le_succ h.1), fun r => ?_⟩
  rw [putOp_of]
  by_cases e : r = o.repl
  · rw [if_pos e]
    have := h.2 o.repl
    show 0 ≤ (sgOf m o.repl).many + 1 ∧ (sgOf m o.repl).many + 1 ≤ _
    omega
  · rw [if_neg e]
    have := h.2 r
    omega
theorem go_step {m : List (Int × SgtV)} {l : List OpV} {k : Nat} (h : k < l.length) (ha : ahead (sgOf m l[k].repl).last l[k] = true) : seenGo m (l.drop k) = seenGo (sgPutOp m l[k]) (l.drop (k + 1)) := by
  rw [List.drop_eq_getElem_cons h, seenGo, if_pos ha]
theorem go_stop {m : List (Int × SgtV)} {l : List OpV} {k : Nat} (h : k < l.length) (ha : ahead (sgOf m l[k].repl).last l[k] = false) : seenGo m (l.drop k) = none := by
  rw [List.drop_eq_getElem_cons h, seenGo, if_neg (by rw [ha]; decide)]
/-- What impl.seenIn answers. -/
def SeenOut (w w' : World) (e : Ending) : Option (List (Int × SgtV)) → Prop
  | none => e = .returned (.tuple #[.map none, .bool false]) ∧ Below w.heap.size w w'
  | some m => ∃ B, e = .returned (.tuple #[.map (some B), .bool true]) ∧ w.heap.size ≤ B ∧ SgAt w' B m ∧ Below w.heap.size w w'
def Repl64 (l : List OpV) : Prop := ∀ o ∈ l, -9223372036854775808 ≤ o.repl ∧ o.repl ≤ 9223372036854775807
theorem grown_from {w a b : World} {B : Nat} (h : Below w.heap.size w a) (hg : a.grownBy b (some B)) (hB : w.heap.size ≤ B) : Below w.heap.size w b := h.grown hg h.size (fun k e => by cases e; exact hB)
set_option maxRecDepth 100000 in
set_option maxHeartbeats 1000000 in
theorem seenIn_any (l : List OpV) (ao : Option Addr) (cap : Nat) (w : World) (hl : l.length ≤ 150) (hR : Repl64 l) (hA : OpsAt w ao l) :
    Calls Try.prog 56 #[.slice ao l.length cap] w fun e w' => SeenOut w w' e (seenGo [] l) := by
  have HA := hide hA
  have HR := hide hR
  have hmm := @run_makeMap Try.prog
  obtain ⟨res, hres⟩ : ∃ res, res = seenGo [] l := ⟨_, rfl⟩
  have HRes := hide hres
  rw [← hres]
  clear hA hR hres
  go_enter Try.func56, Try.ntmps56
  go_wp2
  clear hmm
  go_loopw [10] (fun i wr => ∃ (k : Nat) (m : List (Int × SgtV)), k ≤ l.length ∧ i = .int .i64 k ∧ seenGo m (l.drop k) = res ∧ SgAt wr w.heap.size m ∧ SgFew m k ∧ Below w.heap.size w wr) (fun i _ => l.length - (intOf i).toNat)
  case atStart => exact ⟨0, [], by omega, rfl, by rw [HRes.out]; rfl, SgAt.made w, SgFew.nil, (Below.refl _ _).alloc (Nat.le_refl _) _⟩
  case round =>
    obtain ⟨k, m, hk, rfl, hgo, hM, hF, hb⟩ := hrel
    by_cases h : k < l.length
    · obtain ⟨b, off, rfl, hlt, ho⟩ := HA.out k h
      obtain ⟨c0, c1, c2, c3, c4, c5, c6⟩ := ho.block (w' := wr) (hb.block b hlt)
      have hi0 : (0 : Int) ≤ (k : Int) := by omega
      have hi1 : (k : Int) < (l.length : Int) := by omega
      have hrng := HR.out _ (List.getElem_mem h)
      have hof := fun W (hW : SgAt W w.heap.size m) => of_any m w.heap.size l[k].repl W hrng hW
      have hbn := (Below.refl wr.heap.size wr).alloc (Nat.le_refl _) (.cells #[.int .i64 l[k].time, .int .i64 l[k].repl, .int .i64 l[k].kind, .int .i64 l[k].node, .int .i64 l[k].parent, .string l[k].name, .string l[k].value] 59)
      have hcell : ∀ W, Below (wr.alloc (.cells #[.int .i64 l[k].time, .int .i64 l[k].repl, .int .i64 l[k].kind, .int .i64 l[k].node, .int .i64 l[k].parent, .string l[k].name, .string l[k].value] 59)).heap.size (wr.alloc (.cells #[.int .i64 l[k].time, .int .i64 l[k].repl, .int .i64 l[k].kind, .int .i64 l[k].node, .int .i64 l[k].parent, .string l[k].name, .string l[k].value] 59)) W → W.cell? ⟨wr.heap.size, 0, none⟩ = some (.int .i64 l[k].time) ∧ W.cell? ⟨wr.heap.size, 1, none⟩ = some (.int .i64 l[k].repl) ∧ W.cell? ⟨wr.heap.size, 2, none⟩ = some (.int .i64 l[k].kind) ∧ W.cell? ⟨wr.heap.size, 3, none⟩ = some (.int .i64 l[k].node) ∧ W.cell? ⟨wr.heap.size, 4, none⟩ = some (.int .i64 l[k].parent) ∧ W.cell? ⟨wr.heap.size, 5, none⟩ = some (.string l[k].name) ∧ W.cell? ⟨wr.heap.size, 6, none⟩ = some (.string l[k].value) := fun W hW => by
        obtain ⟨b, off, e, _, ho⟩ := ((one_ops wr l[k] 59).stays hW) 0 (by simp)
        cases e
        simpa [OpAt] using ho
      have hd0 := hcell _ (Below.refl _ _)
      have hd1 := hcell _ (Below.refl _ _).drew
      obtain ⟨s, hs⟩ : ∃ s, s = sgOf m l[k].repl := ⟨_, rfl⟩
      have HS := hide hs
      have hq := hF.2 l[k].repl
      have hl1 := hF.1
      have had := fun W (hW : SgAt W w.heap.size m) => addSeen_any m w.heap.size l[k] W hrng (by omega) (by omega) hW
      rw [← hs] at hof
      have hah := fun W => iAhead_any s.last l[k] W
      have hfld := fun W => sight_last s W
      have HGo := hide hgo
      have HM := hide hM
      have HF := hide hF
      have HB := hide hb
      have HBn := hide hbn
      have HOF := hide hof
      have HAD := hide had
      have HC := hide hcell
      unfold OpV.agg SgtV.agg at *
      cases ha : ahead s.last l[k]
      · rw [ha] at hah
        have HAh := hide hah
        have HNo := hide ha
        clear ho hgo hM hF hb hbn hof had hcell hs hq hl1 hah ha hrng
        go_wp2
        go_region_held3 (fun W => W.cell? ⟨wr.heap.size, 0, none⟩ = some (.int .i64 l[k].time) ∧ W.cell? ⟨wr.heap.size, 1, none⟩ = some (.int .i64 l[k].repl) ∧ W.cell? ⟨wr.heap.size, 2, none⟩ = some (.int .i64 l[k].kind) ∧ W.cell? ⟨wr.heap.size, 3, none⟩ = some (.int .i64 l[k].node) ∧ W.cell? ⟨wr.heap.size, 4, none⟩ = some (.int .i64 l[k].parent) ∧ W.cell? ⟨wr.heap.size, 5, none⟩ = some (.string l[k].name) ∧ W.cell? ⟨wr.heap.size, 6, none⟩ = some (.string l[k].value)) (first | with_reducible exact hd0 | with_reducible exact hd1 | with_reducible exact hd2 | with_reducible exact hd3 | fail) (first | (go_at_call 41; refine (HOF.out _ ((HM.out.stays HBn.out).stays (Below.refl _ _).drew)).mono ?_; rintro e w2 ⟨rfl, hb2⟩; have hB2 : Below (wr.alloc (.cells #[.int .i64 l[k].time, .int .i64 l[k].repl, .int .i64 l[k].kind, .int .i64 l[k].node, .int .i64 l[k].parent, .string l[k].name, .string l[k].value] 59)).heap.size (wr.alloc (.cells #[.int .i64 l[k].time, .int .i64 l[k].repl, .int .i64 l[k].kind, .int .i64 l[k].node, .int .i64 l[k].parent, .string l[k].name, .string l[k].value] 59)) w2 := ((Below.refl _ _).drew).trans (hb2.mono (Nat.le_refl _)); have hd2 := HC.out _ hB2; have HB2 := hide hB2; clear hb2 hB2) | (go_at_call 74; refine (HAh.out _).mono ?_; rintro e w3 ⟨rfl, hb3⟩; have hB3 := HB2.out.trans (hb3.mono HB2.out.size); have hd3 := HC.out _ hB3; have HB3 := hide hB3; clear hb3 hB3) | fail)
        go_wp2
        refine bodyPost_ret (v := .tuple #[.map none, .bool false]) (by simp [results, Try.results56, go_sem]) rfl ?_
        rw [← HGo.out, go_stop h (by rw [← HS.out]; exact HNo.out)]
        exact ⟨rfl, HB.out.trans ((HBn.out.trans (HB3.out.mono (by simp))).mono HB.out.size)⟩
      · rw [ha] at hah
        have HAh := hide hah
        have HYes := hide ha
        clear ho hgo hM hF hb hbn hof had hcell hs hq hl1 hah ha hrng
        go_wp2
        go_region_held3 (fun W => W.cell? ⟨wr.heap.size, 0, none⟩ = some (.int .i64 l[k].time) ∧ W.cell? ⟨wr.heap.size, 1, none⟩ = some (.int .i64 l[k].repl) ∧ W.cell? ⟨wr.heap.size, 2, none⟩ = some (.int .i64 l[k].kind) ∧ W.cell? ⟨wr.heap.size, 3, none⟩ = some (.int .i64 l[k].node) ∧ W.cell? ⟨wr.heap.size, 4, none⟩ = some (.int .i64 l[k].parent) ∧ W.cell? ⟨wr.heap.size, 5, none⟩ = some (.string l[k].name) ∧ W.cell? ⟨wr.heap.size, 6, none⟩ = some (.string l[k].value)) (first | with_reducible exact hd0 | with_reducible exact hd1 | with_reducible exact hd2 | with_reducible exact hd3 | fail) (first | (go_at_call 41; refine (HOF.out _ ((HM.out.stays HBn.out).stays (Below.refl _ _).drew)).mono ?_; rintro e w2 ⟨rfl, hb2⟩; have hB2 : Below (wr.alloc (.cells #[.int .i64 l[k].time, .int .i64 l[k].repl, .int .i64 l[k].kind, .int .i64 l[k].node, .int .i64 l[k].parent, .string l[k].name, .string l[k].value] 59)).heap.size (wr.alloc (.cells #[.int .i64 l[k].time, .int .i64 l[k].repl, .int .i64 l[k].kind, .int .i64 l[k].node, .int .i64 l[k].parent, .string l[k].name, .string l[k].value] 59)) w2 := ((Below.refl _ _).drew).trans (hb2.mono (Nat.le_refl _)); have hd2 := HC.out _ hB2; have HB2 := hide hB2; clear hb2 hB2) | (go_at_call 74; refine (HAh.out _).mono ?_; rintro e w3 ⟨rfl, hb3⟩; have hB3 := HB2.out.trans (hb3.mono HB2.out.size); have hd3 := HC.out _ hB3; have HB3 := hide hB3; clear hb3 hB3) | fail)
        have hM3 := (HM.out.stays HBn.out).stays HB3.out
        obtain ⟨e0, e1, e2, e3, e4, e5, e6⟩ := HC.out _ HB3.out
        have HM3 := hide hM3
        clear hM3 hd0 hd1
        go_wp2_with (first | (go_at_call 64; refine (HAD.out _ HM3.out).mono ?_; rintro e w4 ⟨⟨v4, rfl⟩, hM4, hg4⟩; have HM4 := hide hM4; have HG4 := hide hg4; clear hM4 hg4) | fail)
        go_roundw
        case rel => exact ⟨k + 1, _, by omega, by go_num, by rw [← go_step h (by rw [← HS.out]; exact HYes.out)]; exact HGo.out, HM4.out, HF.out.put _, grown_from (HB.out.trans ((HBn.out.trans (HB3.out.mono (by simp))).mono HB.out.size)) HG4.out (Nat.le_refl _)⟩
        case measure => simp [intOf]; omega
    · obtain rfl : k = l.length := by omega
      have HM := hide hM
      have HGo := hide hgo
      clear hM hgo hF
      go_wp2
      refine bodyPost_ret (v := .tuple #[.map (some w.heap.size), .bool true]) (by simp [results, Try.results56, go_sem]) rfl ?_
      have e := HGo.out
      rw [List.drop_length, seenGo] at e
      rw [← e]
      exact ⟨_, rfl, Nat.le_refl _, HM.out, hb⟩
end Go.Proofs.Ytdjjpaleemnikaa.OpR
