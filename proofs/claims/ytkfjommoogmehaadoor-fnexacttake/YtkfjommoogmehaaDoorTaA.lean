/- Proves what impl's hand knows of deeds that come: holds, knowsOwn, unseen. Proves what impl's (opLog).with answers where LogAdd takes the deeds. Proves what impl's (*hand).take refuses at once. Proves what impl's (*hand).take refuses, and takes. -/
import Derived.Test.YtkfjommoogmehaaDoorTkA
import Derived.Test.YtkfjommoogmehaaDoorCliX
import Derived.Test.YtkfjommoogmehaaDoorILog
namespace Go.Proofs.YtkfjommoogmehaaDoor.OpR
open Go.ChangeShapes Go.WideShapes Go.ChangeAt Go.RowKit
set_option linter.unusedVariables false

set_option maxRecDepth 100000 in
set_option maxHeartbeats 400000 in
theorem contains_any (l : List OpV) (o : OpV) (ao : Option Addr) (cap : Nat) (w : World) (hl : l.length ≤ 150) (hA : OpsAt w ao l) :
    Calls Tryd.prog 71 #[.slice ao l.length cap, o.agg] w fun e w' => e = .returned (.bool (l.any fun x => sameOp x o)) ∧ Below w.heap.size w w' := by
  have h1 := fun W (hW : Below w.heap.size w W) => index_any l o ao cap W hl (hA.stays hW)
  have H1 := hide h1
  have HA0 := hide ((Below.refl w.heap.size w).alloc (Nat.le_refl _) (.cells #[.int .i64 o.time, .int .i64 o.repl, .int .i64 o.kind, .int .i64 o.node, .int .i64 o.parent, .string o.name, .string o.value] 31))
  obtain ⟨bx, ox, eb, hltb, hob⟩ := one_ops w o 31 0 (by simp)
  cases eb
  obtain ⟨d0, d1, d2, d3, d4, d5, d6⟩ := hob
  simp only [List.getElem_cons_zero, Nat.zero_mul, Nat.zero_add] at d0 d1 d2 d3 d4 d5 d6
  unfold OpV.agg at *
  clear h1 hA hltb
  go_enter Tryd.func71, Tryd.ntmps71
  go_wp2_with (first | (go_at_call 78; first | (refine (H1.out _ HA0.out).mono ?_; rintro e w1 ⟨n, rfl, hn, hb1⟩; have HB := hide (HA0.out.trans (hb1.mono HA0.out.size))) | (refine (H1.out _ (Below.refl _ _)).mono ?_; rintro e w1 ⟨n, rfl, hn, hb1⟩; have HB := hide hb1) | fail) | fail)
  go_ret
  exact ⟨rfl, HB.out⟩
theorem newOps_len (got fr : Int) (l : List OpV) (h : 0 ≤ got - fr) : (newOps got fr l).length = l.length - (min (l.length : Int) (got - fr)).toNat := by
  unfold newOps
  rw [List.length_drop]
set_option maxRecDepth 100000 in
set_option maxHeartbeats 400000 in
theorem unseen_any (c : CliV) (la oa : Option Addr) (lc oc : Nat) (fr : Int) (l : List OpV) (b off cap : Nat) (w : World) (hl : l.length ≤ 400) (hg : c.got ≤ 1000000) (hf : 0 ≤ fr) (hfg : fr ≤ c.got) (k : Nat) (hk : min (l.length : Int) (c.got - fr) = (k : Int)) :
    Calls Tryd.prog 42 #[c.hand la lc oa oc, .int .i64 fr, .slice (some ⟨b, off, none⟩) l.length cap] w fun e w' => e = .returned (.slice (some ⟨b, fromOff off cap k, none⟩) (l.length - k) (cap - k)) ∧ Below w.heap.size w w' := by
  have HB0 := hide (HandBox.new w c la lc oa oc)
  have hwr : wrap64 (c.got - fr) = c.got - fr := by unfold wrap64; omega
  obtain ⟨p0, p1, p2, p3, p4, p5⟩ := HB0.out.cells
  unfold CliV.hand
  have hsl := fun W => slice_from W b off l.length cap k (min (c.got - fr) (l.length : Int)) (by omega) (by omega)
  clear hk
  go_enter Tryd.func42, Tryd.ntmps42
  go_wp2
  go_ret
  exact ⟨rfl, HB0.out.2⟩
set_option maxRecDepth 100000 in
set_option maxHeartbeats 400000 in
theorem holds_any (l : List OpV) (o : OpV) (ao : Option Addr) (cap : Nat) (w : World) (hl : l.length ≤ 150) (hA : OpsAt w ao l) :
    Calls Tryd.prog 61 #[.slice ao l.length cap, o.agg] w fun e w' => e = .returned (.bool (l.any fun x => sameOp x o)) ∧ Below w.heap.size w w' := by
  have h1 := fun W (hW : Below w.heap.size w W) => contains_any l o ao cap W hl (hA.stays hW)
  have H1 := hide h1
  have HA0 := hide ((Below.refl w.heap.size w).alloc (Nat.le_refl _) (.cells #[.int .i64 o.time, .int .i64 o.repl, .int .i64 o.kind, .int .i64 o.node, .int .i64 o.parent, .string o.name, .string o.value] 31))
  obtain ⟨bx, ox, eb, hltb, hob⟩ := one_ops w o 31 0 (by simp)
  cases eb
  obtain ⟨d0, d1, d2, d3, d4, d5, d6⟩ := hob
  simp only [List.getElem_cons_zero, Nat.zero_mul, Nat.zero_add] at d0 d1 d2 d3 d4 d5 d6
  unfold OpV.agg at *
  clear h1 hA hltb
  go_enter Tryd.func61, Tryd.ntmps61
  go_wp2_with (first | (go_at_call 71; first | (refine (H1.out _ HA0.out).mono ?_; rintro e w1 ⟨rfl, hb1⟩; have HB := hide (HA0.out.trans (hb1.mono HA0.out.size))) | (refine (H1.out _ (Below.refl _ _)).mono ?_; rintro e w1 ⟨rfl, hb1⟩; have HB := hide hb1) | fail) | fail)
  go_ret
  exact ⟨rfl, HB.out⟩
theorem known_upto {l : List OpV} {r : Int} {m : List OpV} (h : ∀ j (hj : j < m.length), (!decide (m[j].repl = r) || l.any (fun x => sameOp x m[j])) = true) : knownB l r m = true := by
  unfold knownB
  rw [List.all_eq_true]
  intro x hx
  obtain ⟨j, hj, rfl⟩ := List.getElem_of_mem hx
  exact h j hj
theorem known_at {l : List OpV} {r : Int} {m : List OpV} {j : Nat} (hj : j < m.length) (h1 : m[j].repl = r) (h2 : l.any (fun x => sameOp x m[j]) = false) : knownB l r m = false := by
  unfold knownB
  rw [List.all_eq_false]
  exact ⟨m[j], List.getElem_mem hj, by simp [h1, h2]⟩
set_option maxRecDepth 100000 in
set_option maxHeartbeats 1000000 in
theorem knows_any (c : CliV) (la oa : Option Addr) (lc oc : Nat) (m : List OpV) (ma : Option Addr) (mc : Nat) (w : World) (hl : c.log.length ≤ 150) (hm : m.length ≤ 400) (hA : OpsAt w la c.log) (hM : OpsAt w ma m) :
    Calls Tryd.prog 43 #[c.hand la lc oa oc, .slice ma m.length mc] w fun e w' => e = .returned (.bool (knownB c.log c.repl m)) ∧ Below w.heap.size w w' := by
  have h1 := fun W o (hW : Below w.heap.size w W) => holds_any c.log o la lc W hl (hA.stays hW)
  have H1 := hide h1
  have HM := hide hM
  have HB0 := hide (HandBox.new w c la lc oa oc)
  have HA0 := hide ((Below.refl w.heap.size w).alloc (Nat.le_refl _) (.cells #[.slice la c.log.length lc, .int .i64 c.repl, .int .i64 c.clock, .int .i64 c.acked, .slice oa c.out.length oc, .int .i64 c.got] 58))
  obtain ⟨p0, p1, p2, p3, p4, p5⟩ := HB0.out.cells
  unfold CliV.hand OpV.agg at *
  clear h1 hA hM
  go_enter Tryd.func43, Tryd.ntmps43
  go_wp2
  clear p0 p1 p2 p3 p4 p5
  go_loopw [9] (fun i wr => ∃ k : Nat, k ≤ m.length ∧ i = .int .i64 k ∧ (∀ j (hj : j < m.length), j < k → (!decide (m[j].repl = c.repl) || c.log.any (fun x => sameOp x m[j])) = true) ∧ Below (w.alloc (.cells #[.slice la c.log.length lc, .int .i64 c.repl, .int .i64 c.clock, .int .i64 c.acked, .slice oa c.out.length oc, .int .i64 c.got] 58)).heap.size (w.alloc (.cells #[.slice la c.log.length lc, .int .i64 c.repl, .int .i64 c.clock, .int .i64 c.acked, .slice oa c.out.length oc, .int .i64 c.got] 58)) wr) (fun i _ => m.length - (intOf i).toNat)
  case atStart => exact ⟨0, by omega, rfl, fun j hj h => by omega, Below.refl _ _⟩
  case round =>
    obtain ⟨k, hkl, rfl, hal, hw⟩ := hrel
    have HL := hide hal
    have HB1 := hide (HB0.out.step hw)
    have HW := hide hw
    have hws := hw.size
    obtain ⟨p0, p1, p2, p3, p4, p5⟩ := HB1.out.cells
    clear hal
    by_cases h : k < m.length
    · obtain ⟨b1, o1, rfl, hlt1, ho1⟩ := HM.out k h
      obtain ⟨c0, c1, c2, c3, c4, c5, c6⟩ := ho1.block (w' := wr) ((hw.block b1 (by simp; omega)).trans (HA0.out.block b1 hlt1))
      have hi0 : (0 : Int) ≤ (k : Int) := by omega
      have hi1 : (k : Int) < (m.length : Int) := by omega
      have hba : Below wr.heap.size wr (wr.alloc (.cells #[.int .i64 m[k].time, .int .i64 m[k].repl, .int .i64 m[k].kind, .int .i64 m[k].node, .int .i64 m[k].parent, .string m[k].name, .string m[k].value] 31)) := (Below.refl _ _).alloc (Nat.le_refl _) _
      have HBA := hide hba
      obtain ⟨q0, q1, q2, q3, q4, q5⟩ := (HB1.out.step hba).cells
      have hWA : Below w.heap.size w (wr.alloc (.cells #[.int .i64 m[k].time, .int .i64 m[k].repl, .int .i64 m[k].kind, .int .i64 m[k].node, .int .i64 m[k].parent, .string m[k].name, .string m[k].value] 31)) := (HB1.out.step hba).2
      have h1 := H1.out _ m[k] hWA
      have HC := hide h1
      clear ho1 hw h1
      by_cases hr : m[k].repl = c.repl
      · have hr' : (m[k].repl == c.repl) = true := by simp [hr]
        have hr2 : decide (m[k].repl = c.repl) = true := by simp [hr]
        have HR := hide hr
        clear hr
        cases hs : c.log.any (fun x => sameOp x m[k])
        · have HS := hide hs
          rw [hs] at HC
          clear hs
          go_wp2_with (first | (go_at_call 61; refine HC.out.mono ?_; rintro e w1 ⟨rfl, hb1⟩; have HB2 := hide ((HB1.out.step HBA.out).step hb1)) | fail)
          go_ret
          exact ⟨by rw [known_at h HR.out HS.out]; rfl, HB2.out.2⟩
        · have HS := hide hs
          rw [hs] at HC
          clear hs
          go_wp2_with (first | (go_at_call 61; refine HC.out.mono ?_; rintro e w1 ⟨rfl, hb1⟩; have HB2 := hide (HW.out.trans ((HBA.out.trans (hb1.mono (by simp))).mono HW.out.size))) | fail)
          go_roundw
          case rel =>
            refine ⟨k + 1, by omega, by go_num, fun j hj hjk => ?_, HB2.out⟩
            rcases Nat.lt_or_ge j k with h' | h'
            · exact HL.out j hj h'
            · obtain rfl : j = k := by omega
              rw [HS.out, Bool.or_true]
          case measure => simp [intOf]; omega
      · have hr' : (m[k].repl == c.repl) = false := by simp [hr]
        have hr2 : decide (m[k].repl = c.repl) = false := by simp [hr]
        go_wp2
        go_roundw
        case rel =>
          refine ⟨k + 1, by omega, by go_num, fun j hj hjk => ?_, HW.out.trans (HBA.out.mono HW.out.size)⟩
          rcases Nat.lt_or_ge j k with h' | h'
          · exact HL.out j hj h'
          · obtain rfl : j = k := by omega
            rw [hr2]; rfl
        case measure => simp [intOf]; omega
    · obtain rfl : k = m.length := by omega
      go_wp2
      go_ret
      exact ⟨by rw [known_upto (fun j hj => HL.out j hj hj)]; rfl, HB1.out.2⟩
end Go.Proofs.YtkfjommoogmehaaDoor.OpR
namespace Go.Proofs.YtkfjommoogmehaaDoor.OpR
open Go.ChangeShapes Go.WideShapes Go.ChangeAt Go.RowKit
set_option linter.unusedVariables false

theorem OutIn.open {w w' : World} {e : Ending} {r : List OpV × Int × Int} (h : OutIn w w' e r) : ∃ va, e = .returned (.agg #[.slice va r.1.length r.1.length, .int .i64 r.2.1, .int .i64 r.2.2]) ∧ OpsAt w' va r.1 ∧ (∀ a, va = some a → w.heap.size ≤ a.block) ∧ Below w.heap.size w w' := by
  obtain ⟨v, he, h1, h2⟩ := h
  rcases h1 with ⟨g, rfl, hg, hi⟩ | ⟨rfl, h3⟩
  · exact ⟨some ⟨g, 0, none⟩, he, hi.opsAt, fun a e => by cases e; exact hg, h2⟩
  · exact ⟨none, by rw [h3]; exact he, by rw [h3]; exact fun j hj => absurd hj (by simp), fun a e => (by cases e), h2⟩
set_option maxRecDepth 100000 in
set_option maxHeartbeats 400000 in
theorem with_ok (l m : List OpV) (ao1 ao2 : Option Addr) (c1 c2 : Nat) (w : World) (r : List OpV × Int × Int) (hr : r.2.2 = 0)
    (hla : Calls Tryd.prog 62 #[.slice ao1 l.length c1, .slice ao2 m.length c2] w fun e w' => OutIn w w' e r) :
    Calls Tryd.prog 44 #[.slice ao1 l.length c1, .slice ao2 m.length c2] w fun e w' => ∃ va, e = .returned (.tuple #[.slice va r.1.length r.1.length, .int .i64 r.2.1, .nilIface]) ∧ OpsAt w' va r.1 ∧ (∀ a, va = some a → w.heap.size ≤ a.block) ∧ Below w.heap.size w w' := by
  have HL := hide hla
  have h0 := fun W => refAdd_ok W
  have H0 := hide h0
  have HR := hide hr
  clear hla h0
  go_enter Tryd.func44, Tryd.ntmps44
  go_wp2_with (first | (go_at_call 62; refine HL.out.mono ?_; intro e w1 h1; obtain ⟨va, he, ho, hb, hb1⟩ := h1.open; rw [hr] at he; subst he; have HX := hide (And.intro ho (And.intro hb hb1)); clear ho hb hb1) | (go_at_call 63; refine (H0.out _).mono ?_; rintro e w2 ⟨rfl, hb2⟩) | fail)
  have hd : ∀ W, Below (w1.alloc (.cells #[.slice va r.1.length r.1.length, .int .i64 r.2.1, .int .i64 0] 52)).heap.size (w1.alloc (.cells #[.slice va r.1.length r.1.length, .int .i64 r.2.1, .int .i64 0] 52)) W → W.cell? ⟨w1.heap.size, 0, none⟩ = some (.slice va r.1.length r.1.length) ∧ W.cell? ⟨w1.heap.size, 1, none⟩ = some (.int .i64 r.2.1) ∧ W.cell? ⟨w1.heap.size, 2, none⟩ = some (.int .i64 0) := fun W hW => by
    have h := (hW.block w1.heap.size (by simp)).trans (heap_alloc_new w1 (.cells #[.slice va r.1.length r.1.length, .int .i64 r.2.1, .int .i64 0] 52))
    refine ⟨?_, ?_, ?_⟩ <;> simp [World.cell?, h]
  have hd0 := hd _ (Below.refl _ _)
  have hd1 := hd _ (Below.refl _ _).drew
  have HD := hide hd
  have hbx : Below w1.heap.size w1 (w1.alloc (.cells #[.slice va r.1.length r.1.length, .int .i64 r.2.1, .int .i64 0] 52)) := (Below.refl _ _).alloc (Nat.le_refl _) _
  have HBX := hide hbx
  clear hd hbx
  go_region_held3 (fun W => W.cell? ⟨w1.heap.size, 0, none⟩ = some (.slice va r.1.length r.1.length) ∧ W.cell? ⟨w1.heap.size, 1, none⟩ = some (.int .i64 r.2.1) ∧ W.cell? ⟨w1.heap.size, 2, none⟩ = some (.int .i64 0)) (first | with_reducible exact hd0 | with_reducible exact hd1 | with_reducible exact hd2 | fail) (first | (go_at_call 63; refine (H0.out _).mono ?_; rintro e w2 ⟨rfl, hb2⟩; have hB2 : Below (w1.alloc (.cells #[.slice va r.1.length r.1.length, .int .i64 r.2.1, .int .i64 0] 52)).heap.size (w1.alloc (.cells #[.slice va r.1.length r.1.length, .int .i64 r.2.1, .int .i64 0] 52)) w2 := ((Below.refl _ _).drew).trans (hb2.mono (Nat.le_refl _)); have hd2 := HD.out _ hB2; have HB2 := hide hB2; clear hb2 hB2) | fail)
  go_wp2
  obtain ⟨ho, hb, hb1⟩ := HX.out
  have hb2 := HBX.out.trans (HB2.out.mono (by simp))
  refine bodyPost_ret (v := .tuple #[.slice va r.1.length r.1.length, .int .i64 r.2.1, .nilIface]) (by simp [results, Tryd.results44, go_sem]) rfl ⟨va, rfl, ho.stays hb2, hb, hb1.trans (hb2.mono hb1.size)⟩
set_option maxRecDepth 100000 in
set_option maxHeartbeats 400000 in
theorem with_no (l m : List OpV) (ao1 ao2 : Option Addr) (c1 c2 : Nat) (w : World) {f : Nat → Addr} (hS : Sents w f) (r : List OpV × Int × Int) (cd : Int) (hcd : cd = 7 ∨ cd = 9) (hr : r.2.2 = cd)
    (hla : Calls Tryd.prog 62 #[.slice ao1 l.length c1, .slice ao2 m.length c2] w fun e w' => OutIn w w' e r) :
    Calls Tryd.prog 44 #[.slice ao1 l.length c1, .slice ao2 m.length c2] w fun e w' => ∃ va, e = .returned (.tuple #[.slice va r.1.length r.1.length, .int .i64 r.2.1, errV f (gOf cd)]) ∧ OpsAt w' va r.1 ∧ (∀ a, va = some a → w.heap.size ≤ a.block) ∧ Below w.heap.size w w' := by
  have HL := hide hla
  have h0 := fun W (hW : Below w.heap.size w W) => refAdd_no (hS.step hW) hcd
  have H0 := hide h0
  have HR := hide hr
  have HCD := hide hcd
  unfold errV at *
  clear hla h0 hcd hS
  go_enter Tryd.func44, Tryd.ntmps44
  go_wp2_with (first | (go_at_call 62; refine HL.out.mono ?_; intro e w1 h1; obtain ⟨va, he, ho, hb, hb1⟩ := h1.open; rw [hr] at he; subst he; have HX := hide (And.intro ho (And.intro hb hb1)); clear ho hb hb1) | (go_at_call 63; refine (H0.out _ HWD.out).mono ?_; rintro e w2 ⟨rfl, hb2⟩) | fail)
  have hd : ∀ W, Below (w1.alloc (.cells #[.slice va r.1.length r.1.length, .int .i64 r.2.1, .int .i64 cd] 52)).heap.size (w1.alloc (.cells #[.slice va r.1.length r.1.length, .int .i64 r.2.1, .int .i64 cd] 52)) W → W.cell? ⟨w1.heap.size, 0, none⟩ = some (.slice va r.1.length r.1.length) ∧ W.cell? ⟨w1.heap.size, 1, none⟩ = some (.int .i64 r.2.1) ∧ W.cell? ⟨w1.heap.size, 2, none⟩ = some (.int .i64 cd) := fun W hW => by
    have h := (hW.block w1.heap.size (by simp)).trans (heap_alloc_new w1 (.cells #[.slice va r.1.length r.1.length, .int .i64 r.2.1, .int .i64 cd] 52))
    refine ⟨?_, ?_, ?_⟩ <;> simp [World.cell?, h]
  have hd0 := hd _ (Below.refl _ _)
  have hd1 := hd _ (Below.refl _ _).drew
  have HD := hide hd
  have hbx : Below w1.heap.size w1 (w1.alloc (.cells #[.slice va r.1.length r.1.length, .int .i64 r.2.1, .int .i64 cd] 52)) := (Below.refl _ _).alloc (Nat.le_refl _) _
  have HBX := hide hbx
  have hwd : Below w.heap.size w (w1.alloc (.cells #[.slice va r.1.length r.1.length, .int .i64 r.2.1, .int .i64 cd] 52)).drew := (HX.out.2.2.trans (hbx.mono HX.out.2.2.size)).drew
  have HWD := hide hwd
  clear hwd
  clear hd hbx
  go_region_held3 (fun W => W.cell? ⟨w1.heap.size, 0, none⟩ = some (.slice va r.1.length r.1.length) ∧ W.cell? ⟨w1.heap.size, 1, none⟩ = some (.int .i64 r.2.1) ∧ W.cell? ⟨w1.heap.size, 2, none⟩ = some (.int .i64 cd)) (first | with_reducible exact hd0 | with_reducible exact hd1 | with_reducible exact hd2 | fail) (first | (go_at_call 63; refine (H0.out _ HWD.out).mono ?_; rintro e w2 ⟨rfl, hb2⟩; have hB2 : Below (w1.alloc (.cells #[.slice va r.1.length r.1.length, .int .i64 r.2.1, .int .i64 cd] 52)).heap.size (w1.alloc (.cells #[.slice va r.1.length r.1.length, .int .i64 r.2.1, .int .i64 cd] 52)) w2 := ((Below.refl _ _).drew).trans (hb2.mono (Nat.le_refl _)); have hd2 := HD.out _ hB2; have HB2 := hide hB2; clear hb2 hB2) | fail)
  go_wp2
  obtain ⟨ho, hb, hb1⟩ := HX.out
  have hb2 := HBX.out.trans (HB2.out.mono (by simp))
  refine bodyPost_ret (v := .tuple #[.slice va r.1.length r.1.length, .int .i64 r.2.1, .iface 109 (.pointer (some (f (gOf cd))))]) (by simp [results, Tryd.results44, go_sem]) rfl ⟨va, rfl, ho.stays hb2, hb, hb1.trans (hb2.mono hb1.size)⟩
end Go.Proofs.YtkfjommoogmehaaDoor.OpR
namespace Go.Proofs.YtkfjommoogmehaaDoor.OpR
open Go.ChangeShapes Go.WideShapes Go.ChangeAt Go.RowKit
set_option linter.unusedVariables false

set_option maxRecDepth 100000 in
set_option maxHeartbeats 1000000 in
theorem take_size (c : CliV) (la oa : Option Addr) (lc oc : Nat) (fr : Int) (l : List OpV) (ma : Option Addr) (mc : Nat) (g : Nat) (w : World) {f : Nat → Addr} (hS : Sents w f) (hl : l.length ≤ maxLen) (hbig : 400 < l.length) :
    Calls Tryd.prog 28 #[.pointer (some ⟨g, 0, none⟩), .int .i64 fr, .slice ma l.length mc] w fun e w' => e = .returned (.tuple #[.int .i64 0, errV f (gOf 2)]) ∧ Below w.heap.size w w' := by
  have v0 := hS.var 0 (by omega)
  have hb : (400 : Int) < (l.length : Int) := by omega
  have hb' : decide ((400 : Int) < (l.length : Int)) = true := by simpa using hb
  rw [show gOf 2 = 0 from rfl]
  unfold errV
  clear hS
  go_enter Tryd.func28, Tryd.ntmps28
  go_wp2
  go_region
  all_goals (
    go_wp2
    refine bodyPost_ret (v := .tuple #[.int .i64 0, .iface 109 (.pointer (some (f 0)))]) (by simp [results, Tryd.results28, go_sem]) rfl ⟨rfl, ?_⟩
    first | exact (Below.refl _ _).drew | exact drewN_b (Below.refl _ _) _ | exact Below.refl _ _ | fail)
end Go.Proofs.YtkfjommoogmehaaDoor.OpR
namespace Go.Proofs.YtkfjommoogmehaaDoor.OpR
open Go.ChangeShapes Go.WideShapes Go.ChangeAt Go.RowKit
set_option linter.unusedVariables false

set_option maxRecDepth 100000 in
set_option maxHeartbeats 1000000 in
theorem take_form1 (c : CliV) (la oa : Option Addr) (lc oc : Nat) (fr : Int) (l : List OpV) (b off mc : Nat) (g : Nat) (w : World) {f : Nat → Addr} (hS : Sents w f) (hz : CSz maxLen c) (hf : Num64 fr) (hH : HandAt w g c la lc oa oc) (hA : OpsAt w la c.log) (hC : OpsAt w oa c.out) (hl : l.length ≤ 400) (hmc : l.length ≤ mc) (hM : OpsAt w (some ⟨b, off, none⟩) l) (hSz : Sized l) (hcr : cliRight c = false) :
    Calls Tryd.prog 28 #[.pointer (some ⟨g, 0, none⟩), .int .i64 fr, .slice (some ⟨b, off, none⟩) l.length mc] w fun e w' => e = .returned (.tuple #[.int .i64 0, errV f (gOf 1)]) ∧ Below w.heap.size w w' := by
  have hr := fun W (hW : Below w.heap.size w W) => iRight_any c la oa lc oc W hz (hA.stays hW) (hC.stays hW)
  have ho := fun W (hW : Below w.heap.size w W) => iOps_any l (some ⟨b, off, none⟩) mc W (by unfold maxLen; omega) hmc (hM.stays hW) hSz
  have hv := fun W (hW : Below w.heap.size w W) => (hS.step hW).var 1 (by omega)
  have HV := hide hv
  have hbg : decide ((400 : Int) < (l.length : Int)) = false := by simpa using (show (l.length : Int) ≤ 400 by omega)
  rw [hcr] at hr
  have HH := hide hH
  obtain ⟨p0, p1, p2, p3, p4, p5, fz⟩ := hH.cells
  have HR := hide hr
  have HO := hide ho
  rw [show gOf 1 = 1 from rfl]
  unfold CliV.hand errV at *
  clear hr ho hv hS hA hC hz hH hM hSz hcr
  go_enter Tryd.func28, Tryd.ntmps28
  go_wp2_with (first | (go_at_call 40; (refine (HR.out _ (Below.refl _ _)).mono ?_); rintro e w1 ⟨rfl, hb1⟩; have HB1 := hide hb1; clear p0 p1 p2 p3 p4 p5 fz hb1; obtain ⟨p0, p1, p2, p3, p4, p5, fz⟩ := (HH.out.step HB1.out).cells; have q1 := HV.out _ HB1.out) | fail)
  go_region
  all_goals (
    go_wp2
    refine bodyPost_ret (v := .tuple #[.int .i64 0, .iface 109 (.pointer (some (f 1)))]) (by simp [results, Tryd.results28, go_sem]) rfl ⟨rfl, ?_⟩
    first | exact HB1.out.drew | exact drewN_b HB1.out _ | exact HB1.out | fail)
set_option maxRecDepth 100000 in
set_option maxHeartbeats 1000000 in
theorem take_form2 (c : CliV) (la oa : Option Addr) (lc oc : Nat) (fr : Int) (l : List OpV) (b off mc : Nat) (g : Nat) (w : World) {f : Nat → Addr} (hS : Sents w f) (hz : CSz maxLen c) (hf : Num64 fr) (hH : HandAt w g c la lc oa oc) (hA : OpsAt w la c.log) (hC : OpsAt w oa c.out) (hl : l.length ≤ 400) (hmc : l.length ≤ mc) (hM : OpsAt w (some ⟨b, off, none⟩) l) (hSz : Sized l) (hcr : cliRight c = true) (hor : opsRight l = false) :
    Calls Tryd.prog 28 #[.pointer (some ⟨g, 0, none⟩), .int .i64 fr, .slice (some ⟨b, off, none⟩) l.length mc] w fun e w' => e = .returned (.tuple #[.int .i64 0, errV f (gOf 1)]) ∧ Below w.heap.size w w' := by
  have hr := fun W (hW : Below w.heap.size w W) => iRight_any c la oa lc oc W hz (hA.stays hW) (hC.stays hW)
  have ho := fun W (hW : Below w.heap.size w W) => iOps_any l (some ⟨b, off, none⟩) mc W (by unfold maxLen; omega) hmc (hM.stays hW) hSz
  have hv := fun W (hW : Below w.heap.size w W) => (hS.step hW).var 1 (by omega)
  have HV := hide hv
  have hbg : decide ((400 : Int) < (l.length : Int)) = false := by simpa using (show (l.length : Int) ≤ 400 by omega)
  rw [hcr] at hr
  rw [hor] at ho
  have HH := hide hH
  obtain ⟨p0, p1, p2, p3, p4, p5, fz⟩ := hH.cells
  have HR := hide hr
  have HO := hide ho
  rw [show gOf 1 = 1 from rfl]
  unfold CliV.hand errV at *
  clear hr ho hv hS hA hC hz hH hM hSz hcr hor
  go_enter Tryd.func28, Tryd.ntmps28
  go_wp2_with (first | (go_at_call 40; (refine (HR.out _ (Below.refl _ _)).mono ?_); rintro e w1 ⟨rfl, hb1⟩; have HB1 := hide hb1; clear p0 p1 p2 p3 p4 p5 fz hb1; obtain ⟨p0, p1, p2, p3, p4, p5, fz⟩ := (HH.out.step HB1.out).cells) | (go_at_call 41; (refine (HO.out _ HB1.out).mono ?_); rintro e w2 ⟨rfl, hb2⟩; have HB2 := hide (HB1.out.trans (hb2.mono HB1.out.size)); clear p0 p1 p2 p3 p4 p5 fz hb2; obtain ⟨p0, p1, p2, p3, p4, p5, fz⟩ := (HH.out.step HB2.out).cells; have q1 := HV.out _ HB2.out) | fail)
  go_region
  all_goals (
    go_wp2
    refine bodyPost_ret (v := .tuple #[.int .i64 0, .iface 109 (.pointer (some (f 1)))]) (by simp [results, Tryd.results28, go_sem]) rfl ⟨rfl, ?_⟩
    first | exact HB2.out.drew | exact drewN_b HB2.out _ | exact HB2.out | fail)
set_option maxRecDepth 100000 in
set_option maxHeartbeats 1000000 in
theorem take_form3 (c : CliV) (la oa : Option Addr) (lc oc : Nat) (fr : Int) (l : List OpV) (b off mc : Nat) (g : Nat) (w : World) {f : Nat → Addr} (hS : Sents w f) (hz : CSz maxLen c) (hf : Num64 fr) (hH : HandAt w g c la lc oa oc) (hA : OpsAt w la c.log) (hC : OpsAt w oa c.out) (hl : l.length ≤ 400) (hmc : l.length ≤ mc) (hM : OpsAt w (some ⟨b, off, none⟩) l) (hSz : Sized l) (hcr : cliRight c = true) (hor : opsRight l = true) (h0 : fr < 0) :
    Calls Tryd.prog 28 #[.pointer (some ⟨g, 0, none⟩), .int .i64 fr, .slice (some ⟨b, off, none⟩) l.length mc] w fun e w' => e = .returned (.tuple #[.int .i64 0, errV f (gOf 1)]) ∧ Below w.heap.size w w' := by
  have hr := fun W (hW : Below w.heap.size w W) => iRight_any c la oa lc oc W hz (hA.stays hW) (hC.stays hW)
  have ho := fun W (hW : Below w.heap.size w W) => iOps_any l (some ⟨b, off, none⟩) mc W (by unfold maxLen; omega) hmc (hM.stays hW) hSz
  have hv := fun W (hW : Below w.heap.size w W) => (hS.step hW).var 1 (by omega)
  have HV := hide hv
  have hbg : decide ((400 : Int) < (l.length : Int)) = false := by simpa using (show (l.length : Int) ≤ 400 by omega)
  rw [hcr] at hr
  rw [hor] at ho
  have b0 : decide (fr < 0) = true := by simpa using h0
  have HH := hide hH
  obtain ⟨p0, p1, p2, p3, p4, p5, fz⟩ := hH.cells
  have HR := hide hr
  have HO := hide ho
  rw [show gOf 1 = 1 from rfl]
  unfold CliV.hand errV at *
  clear hr ho hv hS hA hC hz hH hM hSz hcr hor h0
  go_enter Tryd.func28, Tryd.ntmps28
  go_wp2_with (first | (go_at_call 40; (refine (HR.out _ (Below.refl _ _)).mono ?_); rintro e w1 ⟨rfl, hb1⟩; have HB1 := hide hb1; clear p0 p1 p2 p3 p4 p5 fz hb1; obtain ⟨p0, p1, p2, p3, p4, p5, fz⟩ := (HH.out.step HB1.out).cells) | (go_at_call 41; (refine (HO.out _ HB1.out).mono ?_); rintro e w2 ⟨rfl, hb2⟩; have HB2 := hide (HB1.out.trans (hb2.mono HB1.out.size)); clear p0 p1 p2 p3 p4 p5 fz hb2; obtain ⟨p0, p1, p2, p3, p4, p5, fz⟩ := (HH.out.step HB2.out).cells; have q1 := HV.out _ HB2.out) | fail)
  go_region
  all_goals (
    go_wp2
    refine bodyPost_ret (v := .tuple #[.int .i64 0, .iface 109 (.pointer (some (f 1)))]) (by simp [results, Tryd.results28, go_sem]) rfl ⟨rfl, ?_⟩
    first | exact HB2.out.drew | exact drewN_b HB2.out _ | exact HB2.out | fail)
set_option maxRecDepth 100000 in
set_option maxHeartbeats 1000000 in
theorem take_place1 (c : CliV) (la oa : Option Addr) (lc oc : Nat) (fr : Int) (l : List OpV) (b off mc : Nat) (g : Nat) (w : World) {f : Nat → Addr} (hS : Sents w f) (hz : CSz maxLen c) (hf : Num64 fr) (hH : HandAt w g c la lc oa oc) (hA : OpsAt w la c.log) (hC : OpsAt w oa c.out) (hl : l.length ≤ 400) (hmc : l.length ≤ mc) (hM : OpsAt w (some ⟨b, off, none⟩) l) (hSz : Sized l) (hcr : cliRight c = true) (hor : opsRight l = true) (h0 : 0 ≤ fr) (h1 : c.got < fr) :
    Calls Tryd.prog 28 #[.pointer (some ⟨g, 0, none⟩), .int .i64 fr, .slice (some ⟨b, off, none⟩) l.length mc] w fun e w' => e = .returned (.tuple #[.int .i64 0, errV f (gOf 8)]) ∧ Below w.heap.size w w' := by
  have hr := fun W (hW : Below w.heap.size w W) => iRight_any c la oa lc oc W hz (hA.stays hW) (hC.stays hW)
  have ho := fun W (hW : Below w.heap.size w W) => iOps_any l (some ⟨b, off, none⟩) mc W (by unfold maxLen; omega) hmc (hM.stays hW) hSz
  have hv := fun W (hW : Below w.heap.size w W) => (hS.step hW).var 2 (by omega)
  have HV := hide hv
  have hbg : decide ((400 : Int) < (l.length : Int)) = false := by simpa using (show (l.length : Int) ≤ 400 by omega)
  rw [hcr] at hr
  rw [hor] at ho
  have b0 : decide (fr < 0) = false := by simpa using h0
  have b1 : decide (c.got < fr) = true := by simpa using h1
  have HH := hide hH
  obtain ⟨p0, p1, p2, p3, p4, p5, fz⟩ := hH.cells
  have HR := hide hr
  have HO := hide ho
  rw [show gOf 8 = 2 from rfl]
  unfold CliV.hand errV at *
  clear hr ho hv hS hA hC hz hH hM hSz hcr hor h0 h1
  go_enter Tryd.func28, Tryd.ntmps28
  go_wp2_with (first | (go_at_call 40; (refine (HR.out _ (Below.refl _ _)).mono ?_); rintro e w1 ⟨rfl, hb1⟩; have HB1 := hide hb1; clear p0 p1 p2 p3 p4 p5 fz hb1; obtain ⟨p0, p1, p2, p3, p4, p5, fz⟩ := (HH.out.step HB1.out).cells) | (go_at_call 41; (refine (HO.out _ HB1.out).mono ?_); rintro e w2 ⟨rfl, hb2⟩; have HB2 := hide (HB1.out.trans (hb2.mono HB1.out.size)); clear p0 p1 p2 p3 p4 p5 fz hb2; obtain ⟨p0, p1, p2, p3, p4, p5, fz⟩ := (HH.out.step HB2.out).cells; have q1 := HV.out _ HB2.out) | fail)
  go_region
  all_goals (
    go_wp2
    refine bodyPost_ret (v := .tuple #[.int .i64 0, .iface 109 (.pointer (some (f 2)))]) (by simp [results, Tryd.results28, go_sem]) rfl ⟨rfl, ?_⟩
    first | exact HB2.out.drew | exact drewN_b HB2.out _ | exact HB2.out | fail)
set_option maxRecDepth 100000 in
set_option maxHeartbeats 1000000 in
theorem take_place2 (c : CliV) (la oa : Option Addr) (lc oc : Nat) (fr : Int) (l : List OpV) (b off mc : Nat) (g : Nat) (w : World) {f : Nat → Addr} (hS : Sents w f) (hz : CSz maxLen c) (hf : Num64 fr) (hH : HandAt w g c la lc oa oc) (hA : OpsAt w la c.log) (hC : OpsAt w oa c.out) (hl : l.length ≤ 400) (hmc : l.length ≤ mc) (hM : OpsAt w (some ⟨b, off, none⟩) l) (hSz : Sized l) (hcr : cliRight c = true) (hor : opsRight l = true) (h0 : 0 ≤ fr) (h1 : fr ≤ c.got) (h2 : 1000000 < fr + (l.length : Int)) :
    Calls Tryd.prog 28 #[.pointer (some ⟨g, 0, none⟩), .int .i64 fr, .slice (some ⟨b, off, none⟩) l.length mc] w fun e w' => e = .returned (.tuple #[.int .i64 0, errV f (gOf 8)]) ∧ Below w.heap.size w w' := by
  have hr := fun W (hW : Below w.heap.size w W) => iRight_any c la oa lc oc W hz (hA.stays hW) (hC.stays hW)
  have ho := fun W (hW : Below w.heap.size w W) => iOps_any l (some ⟨b, off, none⟩) mc W (by unfold maxLen; omega) hmc (hM.stays hW) hSz
  have hv := fun W (hW : Below w.heap.size w W) => (hS.step hW).var 2 (by omega)
  have HV := hide hv
  have hbg : decide ((400 : Int) < (l.length : Int)) = false := by simpa using (show (l.length : Int) ≤ 400 by omega)
  rw [hcr] at hr
  rw [hor] at ho
  have b0 : decide (fr < 0) = false := by simpa using h0
  have b1 : decide (c.got < fr) = false := by simpa using h1
  have hg := ((cliR_iff c).1 hcr).got
  have hwr : wrap64 (fr + (l.length : Int)) = fr + (l.length : Int) := by unfold wrap64; omega
  have b2 : decide (1000000 < fr + (l.length : Int)) = true := by simpa using h2
  have HH := hide hH
  obtain ⟨p0, p1, p2, p3, p4, p5, fz⟩ := hH.cells
  have HR := hide hr
  have HO := hide ho
  rw [show gOf 8 = 2 from rfl]
  unfold CliV.hand errV at *
  clear hr ho hv hS hA hC hz hH hM hSz hcr hor h0 h1 h2 hg
  go_enter Tryd.func28, Tryd.ntmps28
  go_wp2_with (first | (go_at_call 40; (refine (HR.out _ (Below.refl _ _)).mono ?_); rintro e w1 ⟨rfl, hb1⟩; have HB1 := hide hb1; clear p0 p1 p2 p3 p4 p5 fz hb1; obtain ⟨p0, p1, p2, p3, p4, p5, fz⟩ := (HH.out.step HB1.out).cells) | (go_at_call 41; (refine (HO.out _ HB1.out).mono ?_); rintro e w2 ⟨rfl, hb2⟩; have HB2 := hide (HB1.out.trans (hb2.mono HB1.out.size)); clear p0 p1 p2 p3 p4 p5 fz hb2; obtain ⟨p0, p1, p2, p3, p4, p5, fz⟩ := (HH.out.step HB2.out).cells; have q1 := HV.out _ HB2.out) | fail)
  go_region
  all_goals (
    go_wp2
    refine bodyPost_ret (v := .tuple #[.int .i64 0, .iface 109 (.pointer (some (f 2)))]) (by simp [results, Tryd.results28, go_sem]) rfl ⟨rfl, ?_⟩
    first | exact HB2.out.drew | exact drewN_b HB2.out _ | exact HB2.out | fail)
end Go.Proofs.YtkfjommoogmehaaDoor.OpR
