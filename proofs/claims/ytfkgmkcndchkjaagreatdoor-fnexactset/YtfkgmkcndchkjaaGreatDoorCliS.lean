/- Proves what spec's own ops of a log, and spec.ClientRight, are. -/
import Derived.Test.YtfkgmkcndchkjaaGreatDoorCliA
import Derived.Test.YtfkgmkcndchkjaaGreatDoorRowO
import Derived.Test.YtfkgmkcndchkjaaGreatDoorNeqOp
import Derived.Test.YtfkgmkcndchkjaaGreatDoorOpY
import Derived.Deep.QuietTactic
import Derived.BigQuiet
namespace Go.Proofs.YtfkgmkcndchkjaaGreatDoor.OpR
open Go.ChangeShapes Go.WideShapes Go.ChangeAt Go.RowKit
set_option linter.unusedVariables false

/-- A new row of one op. -/
theorem one_ops (w : World) (o : OpV) (T : TypeId) : OpsAt (w.alloc (.cells #[.int .i64 o.time, .int .i64 o.repl, .int .i64 o.kind, .int .i64 o.node, .int .i64 o.parent, .string o.name, .string o.value] T)) (some ⟨w.heap.size, 0, none⟩) [o] := by
  have h : OpsIn (w.alloc (.cells #[.int .i64 o.time, .int .i64 o.repl, .int .i64 o.kind, .int .i64 o.node, .int .i64 o.parent, .string o.name, .string o.value] T)) w.heap.size T [o] := heap_alloc_new w _
  exact h.opsAt
set_option maxRecDepth 100000 in
set_option maxHeartbeats 1000000 in
theorem sOwn_any (l : List OpV) (ao : Option Addr) (cap : Nat) (r : Int) (w : World) (hl : l.length ≤ 150) (hA : OpsAt w ao l) :
    Calls Tryz.prog 68 #[.slice ao l.length cap, .int .i64 r] w fun e w' => ∃ v, e = .returned v ∧ OwnAt w' w.heap.size 30 v (ownB l r) ∧ Below w.heap.size w w' := by
  have HA := hide hA
  obtain ⟨i0, hi, hzz⟩ := Option.map_eq_some_iff.1 infoOp
  simp only [Prod.mk.injEq] at hzz
  obtain ⟨hz0, hz1, hz2⟩ := hzz
  have HO0 : Hid (OwnAt (w.alloc (.cells #[] 30)) w.heap.size 30 (.slice (some ⟨w.heap.size, 0, none⟩) 0 0) []) := ⟨empty_row w, by simp⟩
  clear hA
  go_enter Tryz.func68, Tryz.ntmps68
  go_wp2
  go_loopw [5, 6] (fun vo i wr => ∃ k : Nat, k ≤ l.length ∧ i = .int .i64 k ∧ OwnAt wr w.heap.size 30 vo (ownB (l.take k) r) ∧ Below w.heap.size w wr) (fun _ i _ => l.length - (intOf i).toNat)
  case atStart => exact ⟨0, by omega, rfl, HO0.out, (Below.refl _ _).alloc (Nat.le_refl _) _⟩
  case round =>
    obtain ⟨k, hk, rfl, hO, hb⟩ := hrel
    obtain ⟨m, hm⟩ : ∃ m, m = ownB (l.take k) r := ⟨_, rfl⟩
    rw [← hm] at hO
    have HM := hide hm
    have HO := hide hO
    have hown1 : m.length ≤ k := by rw [hm]; have := own_len (l.take k) r; rw [List.length_take] at this; omega
    clear hm
    obtain ⟨g, cap1, rfl, hg1, hg2, hcap, hcm, hat⟩ := HO.out.at
    clear hO hat
    by_cases h : k < l.length
    · obtain ⟨b, off, rfl, hlt, ho⟩ := HA.out k h
      obtain ⟨c0, c1, c2, c3, c4, c5, c6⟩ := ho.block (w' := wr) (hb.block b hlt)
      have hi0 : (0 : Int) ≤ (k : Int) := by omega
      have hi1 : (k : Int) < (l.length : Int) := by omega
      have HX := hide ho
      clear ho
      by_cases hr : l[k].repl = r
      · have hr' : (l[k].repl == r) = true := by simp [hr]
        have HR := hide hr
        clear hr
        have hXs := hb.size
        have HN := hide (one_ops wr l[k] 30)
        go_wp2_with (at_builtin; refine wpList_append_ops rfl _ _ rfl w.heap.size _ m rfl (HO.out.1.alloc _) (some ⟨wr.heap.size, 0, none⟩) [l[k]] 1 rfl HN.out (by simp; omega) (by simp; omega) ?_)
        intro v1 w1 hown1' hgr1 hne1
        have hYY : Below w.heap.size w w1 := (hb.alloc hXs _).grown hgr1 (by simp; omega) (fun j hj => by simp [Value.ownBlock] at hj; omega)
        have HO2 : Hid (OwnAt w1 w.heap.size 30 v1 (ownB (l.take (k + 1)) r)) := ⟨by
          have e0 : ownB (l.take (k + 1)) r = m ++ [l[k]] := by rw [own_take h, if_pos HR.out, ← HM.out]
          rw [e0, List.length_append]; exact hown1', hne1⟩
        clear hown1' hgr1 hne1
        go_wp2
        go_roundw
        case rel => exact ⟨k + 1, by omega, by go_num, HO2.out, hYY⟩
        case measure => simp [intOf]; omega
      · have hr' : (l[k].repl == r) = false := by simp [hr]
        go_wp2
        go_roundw
        case rel => exact ⟨k + 1, by omega, by go_num, by rw [own_take h, if_neg hr, List.append_nil, ← HM.out]; exact HO.out, hb⟩
        case measure => simp [intOf]; omega
    · obtain rfl : k = l.length := by omega
      go_wp2
      go_ret
      have e := HM.out
      rw [List.take_length] at e
      exact ⟨_, rfl, by rw [← e]; exact HO.out, hb⟩
set_option maxHeartbeats 400000 in
theorem sRepl_any (n : Int) (w : World) : Calls Tryz.prog 53 #[.int .i64 n] w fun e w' => e = .returned (.bool (isIn n 1 50)) ∧ w = w' := by
  go_enter Tryz.func53, Tryz.ntmps53
  go_wp2_with (first | (go_at_call 60; refine (is_any _ _ _ _).mono ?_; rintro e w1 ⟨rfl, rfl⟩))
  go_ret
  exact ⟨rfl, rfl⟩
/-- A client in a variable. -/
def CliBox (w c : World) (g : Nat) (T : TypeId) (x : CliV) (la : Option Addr) (lc : Nat) (oa : Option Addr) (oc : Nat) : Prop :=
  c.heap[g]? = some (.cells #[.int .i64 x.repl, .int .i64 x.clock, .slice la x.log.length lc, .int .i64 x.acked, .slice oa x.out.length oc, .int .i64 x.got] T (0, 0)) ∧ Below w.heap.size w c
theorem CliBox.cells {w c : World} {g : Nat} {T : TypeId} {x : CliV} {la : Option Addr} {lc : Nat} {oa : Option Addr} {oc : Nat} (h : CliBox w c g T x la lc oa oc) :
    c.cell? ⟨g, 0, none⟩ = some (.int .i64 x.repl) ∧ c.cell? ⟨g, 1, none⟩ = some (.int .i64 x.clock) ∧ c.cell? ⟨g, 2, none⟩ = some (.slice la x.log.length lc) ∧ c.cell? ⟨g, 3, none⟩ = some (.int .i64 x.acked) ∧ c.cell? ⟨g, 4, none⟩ = some (.slice oa x.out.length oc) ∧ c.cell? ⟨g, 5, none⟩ = some (.int .i64 x.got) := by
  have e := h.1
  refine ⟨?_, ?_, ?_, ?_, ?_, ?_⟩ <;> simp [World.cell?, e]
theorem CliBox.step {w c c' : World} {g : Nat} {T : TypeId} {x : CliV} {la : Option Addr} {lc : Nat} {oa : Option Addr} {oc : Nat} (h : CliBox w c g T x la lc oa oc) (hb : Below c.heap.size c c') : CliBox w c' g T x la lc oa oc :=
  ⟨(hb.block g (Array.getElem?_eq_some_iff.1 h.1).1).trans h.1, h.2.trans (hb.mono h.2.size)⟩
theorem drewN_below (w : World) (n : Nat) : Below w.heap.size w (w.drewN n) := ⟨rfl, rfl, rfl, Nat.le_refl _, fun _ _ => rfl⟩
theorem CliBox.drewN {w c : World} {g : Nat} {T : TypeId} {x : CliV} {la : Option Addr} {lc : Nat} {oa : Option Addr} {oc : Nat} (h : CliBox w c g T x la lc oa oc) (n : Nat) : CliBox w (c.drewN n) g T x la lc oa oc := h.step (drewN_below c n)
theorem CliBox.new (w : World) (T : TypeId) (x : CliV) (la : Option Addr) (lc : Nat) (oa : Option Addr) (oc : Nat) : CliBox w (w.alloc (.cells #[.int .i64 x.repl, .int .i64 x.clock, .slice la x.log.length lc, .int .i64 x.acked, .slice oa x.out.length oc, .int .i64 x.got] T)) w.heap.size T x la lc oa oc :=
  ⟨heap_alloc_new w _, (Below.refl _ _).alloc (Nat.le_refl _) _⟩
set_option maxRecDepth 100000 in
set_option maxHeartbeats 1000000 in
theorem sRight_any (c : CliV) (la oa : Option Addr) (lc oc : Nat) (w : World) (hz : CSz maxLen c) (hA : OpsAt w la c.log) (hC : OpsAt w oa c.out) :
    Calls Tryz.prog 40 #[c.agg la lc oa oc] w fun e w' => e = .returned (.bool (cliRight c)) ∧ Below w.heap.size w w' := by
  have hlg := fun W (hW : Below w.heap.size w W) => log_any c.log la lc W hz.log (hA.stays hW) hz.lsz
  have h1 := hz.log
  have h2 := hz.out
  unfold maxLen at h1 h2
  have HLG := hide hlg
  have HA := hide hA
  have HC := hide hC
  have HB0 := hide (CliBox.new w 28 c la lc oa oc)
  have hw0 := HB0.out.cells
  obtain ⟨p0, p1, p2, p3, p4, p5⟩ := hw0
  unfold CliV.agg
  clear hlg hA hC hz
  have m1 : Hid True := ⟨trivial⟩
  go_enter Tryz.func40, Tryz.ntmps40
  go_wp2_with (first | (go_at_call 53; refine (sRepl_any _ _).mono ?_; rintro e w1 ⟨rfl, rfl⟩) | (go_at_call 67; refine (HLG.out _ HB0.out.2).mono ?_; rintro e w1 ⟨rfl, hb1⟩; have HB1 := hide (HB0.out.step hb1); clear p0 p1 p2 p3 p4 p5; obtain ⟨p0, p1, p2, p3, p4, p5⟩ := HB1.out.cells; clear hb1) | (go_at_call 60; refine (is_any _ _ _ _).mono ?_; rintro e w2 ⟨rfl, rfl⟩))
  · rename_i h3 h4 h5 h6 h7
    go_ret
    exact ⟨ret_bool (cli_no fun hh => by have := hh.few; omega).symm, HB1.out.2⟩
  rotate_left
  · rename_i h3 h4 h5 h6
    go_ret
    exact ⟨ret_bool (by simp [cliRight, h6]), HB1.out.2⟩
  · rename_i h3 h4 h5
    go_ret
    exact ⟨ret_bool (by simp [cliRight, h5]), HB1.out.2⟩
  · rename_i h3 h4
    go_ret
    exact ⟨ret_bool (by simp [cliRight, h4]), HB1.out.2⟩
  · rename_i h3
    go_ret
    exact ⟨ret_bool (by simp [cliRight, h3]), HB0.out.2⟩
  rename_i h3 h4 h5 h6 h7 hK7 hk8
  have hL := (log_iff _).1 h4
  have hl150 := hL.2.1
  have HR := hide (And.intro h3 (And.intro h4 (And.intro h5 (And.intro h6 h7))))
  have HSZ := hide (And.intro h1 h2)
  clear h3 h4 h5 h6 hL h1 h2 p0 p1 p2 p3 p4 p5
  go_loopw [3] (fun i wr => ∃ k : Nat, k ≤ c.log.length ∧ i = .int .i64 k ∧ (∀ j (hj : j < c.log.length), j < k → c.log[j].time ≤ c.clock) ∧ CliBox w wr w.heap.size 28 c la lc oa oc) (fun i _ => c.log.length - (intOf i).toNat)
  case atStart => exact ⟨0, by omega, rfl, fun j hj h => by omega, HB1.out⟩
  case round =>
    obtain ⟨k, hk, rfl, hal, hB⟩ := hrel
    have HL := hide hal
    have HB := hide hB
    obtain ⟨p0, p1, p2, p3, p4, p5⟩ := hB.cells
    clear hal hB
    by_cases h : k < c.log.length
    · obtain ⟨b, off, rfl, hlt, ho⟩ := HA.out k h
      obtain ⟨c0, c1, c2, c3, c4, c5, c6⟩ := ho.block (w' := wr) (HB.out.2.block b hlt)
      have hi0 : (0 : Int) ≤ (k : Int) := by omega
      have hi1 : (k : Int) < (c.log.length : Int) := by omega
      clear ho
      go_wp2_with fail
      go_quiet (fail)
      go_wp2
      · go_ret
        rename_i hg
        exact ⟨ret_bool (cli_no fun hh => by have := hh.times _ (List.getElem_mem h); omega).symm, (HB.out.drewN nq).2⟩
      · rename_i hg
        go_roundw
        case rel =>
          refine ⟨k + 1, by omega, by go_num, fun j hj hjk => ?_, HB.out.drewN nq⟩
          rcases Nat.lt_or_ge j k with h' | h'
          · exact HL.out j hj h'
          · obtain rfl : j = k := by omega
            omega
        case measure => simp [intOf]; omega
    · have htimes : ∀ o ∈ c.log, o.time ≤ c.clock := fun o ho => by
        obtain ⟨j, hj, rfl⟩ := List.getElem_of_mem ho
        exact HL.out j hj (by omega)
      have HT := hide htimes
      have how := sOwn_any c.log la lc c.repl wr hl150 (HA.out.stays HB.out.2)
      have HOw := hide how
      clear htimes how
      go_wp2_with (first | (go_at_call 68; refine HOw.out.mono ?_; rintro e w2 ⟨v2, rfl, hO2, hb2⟩; have HB2 := hide (HB.out.step hb2); have HO2 := hide hO2; obtain ⟨g2, cap2, rfl, hg2, hlt2, hcap2, hcm2, hat2⟩ := hO2.at; have HA2 := hide hat2; clear p0 p1 p2 p3 p4 p5 hO2 hb2 hat2; obtain ⟨p0, p1, p2, p3, p4, p5⟩ := HB2.out.cells))
      rotate_left 2
      · rename_i ha
        rw [show wrap64 (((ownB c.log c.repl).length : Int) - (c.out.length : Int)) = ((ownB c.log c.repl).length : Int) - (c.out.length : Int) by unfold wrap64; have := own_len c.log c.repl; omega] at ha
        go_ret
        exact ⟨ret_bool (cli_no fun hh => ha hh.acked).symm, HB2.out.2⟩
      · rename_i ha hb
        rw [show wrap64 (((ownB c.log c.repl).length : Int) - (c.out.length : Int)) = ((ownB c.log c.repl).length : Int) - (c.out.length : Int) by unfold wrap64; have := own_len c.log c.repl; omega] at ha hb
        go_ret
        exact ⟨ret_bool (cli_no fun hh => by have := hh.low; omega).symm, HB2.out.2⟩
      rename_i ha hb hK9 hk9
      rw [show wrap64 (((ownB c.log c.repl).length : Int) - (c.out.length : Int)) = ((ownB c.log c.repl).length : Int) - (c.out.length : Int) by unfold wrap64; have := own_len c.log c.repl; omega] at ha hb
      obtain ⟨n, hn⟩ : ∃ n : Nat, c.acked = (n : Int) := ⟨c.acked.toNat, by omega⟩
      have hlen : n + c.out.length = (ownB c.log c.repl).length := by omega
      have HLen := hide hlen
      have HAck := hide ha
      have HN := hide hn
      have hol := own_len c.log c.repl
      have hn150 : n ≤ 150 := by omega
      have hm150 : (ownB c.log c.repl).length ≤ 150 := by omega
      clear ha hb p0 p1 p2 p3 p4 p5 hlen hol
      go_loopw [5] (fun i wr => ∃ k : Nat, k ≤ c.out.length ∧ i = .int .i64 k ∧ (∀ j (hj : j < c.out.length), j < k → (ownB c.log c.repl)[n + j]? = some c.out[j]) ∧ CliBox w wr w.heap.size 28 c la lc oa oc ∧ OpsAt wr (some ⟨g2, 0, none⟩) (ownB c.log c.repl)) (fun i _ => c.out.length - (intOf i).toNat)
      case atStart => exact ⟨0, by omega, rfl, fun j hj h => by omega, HB2.out, HA2.out⟩
      case round =>
        obtain ⟨q, hq, rfl, hal, hB, hW⟩ := hrel
        have HL := hide hal
        have HB := hide hB
        have HW := hide hW
        obtain ⟨p0, p1, p2, p3, p4, p5⟩ := hB.cells
        rw [hn] at p3
        clear hal hB hW
        by_cases hqk : q < c.out.length
        · obtain ⟨b, off, rfl, hlt, ho⟩ := HC.out q hqk
          obtain ⟨c0, c1, c2, c3, c4, c5, c6⟩ := ho.block (w' := wr) (HB.out.2.block b hlt)
          have hin : n + q < (ownB c.log c.repl).length := by have := HLen.out; omega
          obtain ⟨d0, d1, d2, d3, d4, d5, d6⟩ := HW.out.at0 hin
          have hi0 : (0 : Int) ≤ (q : Int) := by omega
          have hi1 : (q : Int) < (c.out.length : Int) := by omega
          have hj0 : (0 : Int) ≤ (n : Int) + (q : Int) := by omega
          have hj1 : (n : Int) + (q : Int) < ((ownB c.log c.repl).length : Int) := by omega
          have hT : ((n : Int) + (q : Int)).toNat = n + q := by omega
          have hneq := fun W => neq_ops c.out[q] (ownB c.log c.repl)[n + q] W
          unfold OpV.agg at hneq
          clear ho
          cases hs : sameOp c.out[q] (ownB c.log c.repl)[n + q]
          · simp only [hs] at hneq
            have hne : ¬ c.out[q] = (ownB c.log c.repl)[n + q] := fun e => by rw [same_true e] at hs; cases hs
            have HNe := hide hne
            clear hne hs
            go_wp2_with fail
            go_quiet (fail)
            go_wp2
            go_ret
            refine ⟨ret_bool (cli_no fun hh => HNe.out ?_).symm, (HB.out.drewN nq).2⟩
            have e2 : ((ownB c.log c.repl).drop c.acked.toNat)[q]? = c.out[q]? := by rw [hh.last]
            rw [List.getElem?_drop, show c.acked.toNat = n by have := HN.out; omega, List.getElem?_eq_getElem hin, List.getElem?_eq_getElem hqk] at e2
            exact (Option.some.inj e2).symm
          · simp only [hs] at hneq
            have hne : c.out[q] = (ownB c.log c.repl)[n + q] := (same_iff _ _).1 hs
            have HNe := hide hne
            clear hne hs
            go_wp2_with fail
            go_quiet (fail)
            go_wp2
            go_roundw
            case rel =>
              refine ⟨q + 1, by omega, by go_num, fun j hj hjk => ?_, HB.out.drewN nq, HW.out.stays (drewN_below wr nq)⟩
              rcases Nat.lt_or_ge j q with h' | h'
              · exact HL.out j hj h'
              · obtain rfl : j = q := by omega
                rw [List.getElem?_eq_getElem hin, HNe.out]
            case measure => simp [intOf]; omega
        · go_wp2
          go_ret
          obtain ⟨r3, r4, r5, r6, r7⟩ := HR.out
          unfold isIn at r3 r5 r6
          simp only [Bool.and_eq_true, decide_eq_true_eq] at r3 r5 r6
          have hlen := HLen.out
          refine ⟨ret_bool (cli_yes ⟨r3, (log_iff _).1 r4, r5, r6, by omega, HT.out, by have := HN.out; omega, by have := HN.out; omega, ?_⟩).symm, HB.out.2⟩
          rw [show c.acked.toNat = n by have := HN.out; omega]
          refine List.ext_getElem? fun j => ?_
          rw [List.getElem?_drop]
          by_cases hj : j < c.out.length
          · rw [HL.out j hj (by omega), List.getElem?_eq_getElem hj]
          · rw [List.getElem?_eq_none (by omega), List.getElem?_eq_none (by omega)]
end Go.Proofs.YtfkgmkcndchkjaaGreatDoor.OpR
