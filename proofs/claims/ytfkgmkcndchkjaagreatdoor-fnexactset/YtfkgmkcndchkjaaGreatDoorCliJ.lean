/- Proves what impl's hand is: right or not; and impl.ClientRight, impl.ClientNew. -/
import Derived.Test.YtfkgmkcndchkjaaGreatDoorCliI
import Derived.Test.YtfkgmkcndchkjaaGreatDoorClsA
namespace Go.Proofs.YtfkgmkcndchkjaaGreatDoor.OpR
open Go.ChangeShapes Go.WideShapes Go.ChangeAt Go.RowKit
set_option linter.unusedVariables false

/-- A hand: a client whose log comes first. -/
def CliV.hand (c : CliV) (la : Option Addr) (lc : Nat) (oa : Option Addr) (oc : Nat) : Value := .agg #[.slice la c.log.length lc, .int .i64 c.repl, .int .i64 c.clock, .int .i64 c.acked, .slice oa c.out.length oc, .int .i64 c.got]
def HandBox (w c : World) (g : Nat) (x : CliV) (la : Option Addr) (lc : Nat) (oa : Option Addr) (oc : Nat) : Prop :=
  c.heap[g]? = some (.cells #[.slice la x.log.length lc, .int .i64 x.repl, .int .i64 x.clock, .int .i64 x.acked, .slice oa x.out.length oc, .int .i64 x.got] 77 (0, 0)) ∧ Below w.heap.size w c
section
variable {w c : World} {g : Nat} {x : CliV} {la : Option Addr} {lc : Nat} {oa : Option Addr} {oc : Nat}
theorem HandBox.cells (h : HandBox w c g x la lc oa oc) :
    c.cell? ⟨g, 0, none⟩ = some (.slice la x.log.length lc) ∧ c.cell? ⟨g, 1, none⟩ = some (.int .i64 x.repl) ∧ c.cell? ⟨g, 2, none⟩ = some (.int .i64 x.clock) ∧ c.cell? ⟨g, 3, none⟩ = some (.int .i64 x.acked) ∧ c.cell? ⟨g, 4, none⟩ = some (.slice oa x.out.length oc) ∧ c.cell? ⟨g, 5, none⟩ = some (.int .i64 x.got) := by
  have e := h.1
  refine ⟨?_, ?_, ?_, ?_, ?_, ?_⟩ <;> simp [World.cell?, e]
theorem HandBox.step {c' : World} (h : HandBox w c g x la lc oa oc) (hb : Below c.heap.size c c') : HandBox w c' g x la lc oa oc :=
  ⟨(hb.block g (Array.getElem?_eq_some_iff.1 h.1).1).trans h.1, h.2.trans (hb.mono h.2.size)⟩
end
theorem HandBox.drew {w c : World} {g : Nat} {x : CliV} {la : Option Addr} {lc : Nat} {oa : Option Addr} {oc : Nat} (h : HandBox w c g x la lc oa oc) : HandBox w c.drew g x la lc oa oc := ⟨h.1, h.2.drew⟩
theorem HandBox.new (w : World) (x : CliV) (la : Option Addr) (lc : Nat) (oa : Option Addr) (oc : Nat) : HandBox w (w.alloc (.cells #[.slice la x.log.length lc, .int .i64 x.repl, .int .i64 x.clock, .int .i64 x.acked, .slice oa x.out.length oc, .int .i64 x.got] 77)) w.heap.size x la lc oa oc :=
  ⟨heap_alloc_new w _, (Below.refl _ _).alloc (Nat.le_refl _) _⟩
set_option maxRecDepth 100000 in
set_option maxHeartbeats 400000 in
theorem clockRight_any (c : CliV) (la oa : Option Addr) (lc oc : Nat) (w : World) (hl : c.log.length ≤ maxLen) (hA : OpsAt w la c.log) :
    Calls Tryz.prog 102 #[c.hand la lc oa oc] w fun e w' => e = .returned (.bool (decide (lastT c.log ≤ c.clock) && decide (c.clock ≤ 1000000))) ∧ Below w.heap.size w w' := by
  have hlt := fun W (hW : Below w.heap.size w W) => lastTime_any c.log la lc W hl (hA.stays hW)
  have HB0 := hide (HandBox.new w c la lc oa oc)
  obtain ⟨p0, p1, p2, p3, p4, p5⟩ := HB0.out.cells
  have HLT := hide hlt
  unfold CliV.hand
  clear hlt hA
  obtain ⟨t, ht⟩ : ∃ t, t = lastT c.log := ⟨_, rfl⟩
  rw [← ht] at HLT ⊢
  clear ht
  clear p0 p1 p2 p3 p4 p5
  haveI : Nonempty (ClsW fun W => HandBox w W w.heap.size c la lc oa oc) := ⟨⟨_, HB0.out⟩⟩
  have P0 : ∀ q : (ClsW fun W => HandBox w W w.heap.size c la lc oa oc), q.wd.cell? ⟨w.heap.size, 0, none⟩ = some (.slice la c.log.length lc) := fun q => q.ok.cells.1
  have P2 : ∀ q : (ClsW fun W => HandBox w W w.heap.size c la lc oa oc), q.wd.cell? ⟨w.heap.size, 2, none⟩ = some (.int .i64 c.clock) := fun q => q.ok.cells.2.2.1
  by_cases hd : t ≤ c.clock
  · have hdb : decide (t ≤ c.clock) = true := by simp [hd]
    have HD := hide hd
    clear hd
    go_enter Tryz.func102, Tryz.ntmps102
    go_wp2_with fail
    refine region_class (ι := (ClsW fun W => HandBox w W w.heap.size c la lc oa oc)) ClsW.wd (by kernel_rfl) (by kernel_rfl) ⟨_, HB0.out.drew⟩ rfl ?_
    repeat (go_big_quiet_step (first | (go_at_call 137; rename_i q; refine (HLT.out _ q.ok.2).mono ?_; rintro e w1 ⟨rfl, hw1⟩; exact ⟨rfl, ⟨w1, q.ok.step hw1⟩, rfl⟩)))
    refine wpQuiet_nil ?_
    rintro _ ⟨⟨w4, hV4⟩, rfl⟩
    have HV4 := hide hV4
    clear hV4
    go_wp2
    go_ret
    exact ⟨ret_bool (by have := HD.out; simp <;> omega), HV4.out.2⟩
  · have hdb : decide (t ≤ c.clock) = false := by simp [hd]
    have HD := hide hd
    clear hd
    go_enter Tryz.func102, Tryz.ntmps102
    go_wp2_with fail
    refine region_class (ι := (ClsW fun W => HandBox w W w.heap.size c la lc oa oc)) ClsW.wd (by kernel_rfl) (by kernel_rfl) ⟨_, HB0.out.drew⟩ rfl ?_
    repeat (go_big_quiet_step (first | (go_at_call 137; rename_i q; refine (HLT.out _ q.ok.2).mono ?_; rintro e w1 ⟨rfl, hw1⟩; exact ⟨rfl, ⟨w1, q.ok.step hw1⟩, rfl⟩)))
    refine wpQuiet_nil ?_
    rintro _ ⟨⟨w4, hV4⟩, rfl⟩
    have HV4 := hide hV4
    clear hV4
    go_wp2
    go_ret
    exact ⟨ret_bool (by have := HD.out; simp <;> omega), HV4.out.2⟩
set_option maxRecDepth 100000 in
set_option maxHeartbeats 400000 in
theorem handOf_any (c : CliV) (la oa : Option Addr) (lc oc : Nat) (w : World) :
    Calls Tryz.prog 46 #[c.agg la lc oa oc] w fun e w' => e = .returned (c.hand la lc oa oc) ∧ Below w.heap.size w w' := by
  unfold CliV.hand CliV.agg
  go_enter Tryz.func46, Tryz.ntmps46
  go_wp2
  refine bodyPost_ret (v := c.hand la lc oa oc) (by simp [results, Tryz.results46, go_sem, CliV.hand]) rfl ⟨rfl, ((Below.refl _ _).alloc (Nat.le_refl _) _).alloc (by simp) _⟩
/-- A row of ops that the call owns, and what is behind a place in it. -/
theorem row_cut {w : World} {base : Nat} {v : Value} {l : List OpV} (h : w.ownsRow base 30 7 v l.length (flat l)) (k : Nat) (hk : k ≤ l.length) :
    ∃ ao cp bo cb, v = .slice ao l.length cp ∧ OpsAt w bo (l.drop k) ∧ ∀ W, (Instr.slice 26 (.slice ao l.length cp) (some (.int .i64 (k : Int))) none none).run Tryz.prog W = .ok (.slice bo (l.length - k) cb) W := by
  rcases h.2 with ⟨rfl, hn⟩ | ⟨g, cap, cur, rfl, hb, hg, hl, hm, hs, ht⟩
  · have e : l = [] := List.eq_nil_of_length_eq_zero hn
    subst e
    have e : k = 0 := by simpa using hk
    subst e
    refine ⟨none, 0, none, 0, rfl, fun j hj => absurd hj (by simp), fun W => ?_⟩
    have ht : Tryz.prog.underlying 26 = some (.slice (Tryz.prog.elem 26)) := by kernel_rfl
    have hs : ∀ w, (sizeOf (Tryz.prog.elem 26)).run Tryz.prog w = .ok 7 w := fun _ => by kernel_rfl
    have h := run_slice_l (P := Tryz.prog) W 26 none 0 0 ht .i64 (0 : Int) (by omega) (by omega)
    rw [hs] at h
    exact h
  · have hO : OwnAt w base 30 (.slice (some ⟨g, 0, none⟩) l.length cap) l := ⟨h, by simp⟩
    obtain ⟨g', c', e, _, _, hcl, _, hat⟩ := hO.at
    simp only [Value.slice.injEq, Option.some.injEq, Addr.mk.injEq, and_true, true_and] at e
    obtain ⟨rfl, rfl⟩ := e
    exact ⟨some ⟨g, 0, none⟩, cap, some ⟨g, fromOff 0 cap k, none⟩, cap - k, rfl, hat.from k hcl, fun W => slice_from W g 0 l.length cap k k rfl hk⟩
set_option maxRecDepth 100000 in
set_option maxHeartbeats 1000000 in
theorem outRight_any (c : CliV) (la oa : Option Addr) (lc oc : Nat) (w : World) (hl : c.log.length ≤ 150) (ho : c.out.length ≤ maxLen) (hA : OpsAt w la c.log) (hC : OpsAt w oa c.out) :
    Calls Tryz.prog 103 #[c.hand la lc oa oc] w fun e w' => e = .returned (.bool (decide (c.out.length ≤ 30) && lastB (ownB c.log c.repl) c.out c.acked)) ∧ Below w.heap.size w w' := by
  have hby := fun W (hW : Below w.heap.size w W) => by_any c.log la lc c.repl W hl (hA.stays hW)
  have HBY := hide hby
  have HC := hide hC
  have HB0 := hide (HandBox.new w c la lc oa oc)
  obtain ⟨p0, p1, p2, p3, p4, p5⟩ := HB0.out.cells
  have hol := own_len c.log c.repl
  obtain ⟨own, hown⟩ : ∃ own, own = ownB c.log c.repl := ⟨_, rfl⟩
  rw [← hown] at hol HBY ⊢
  have ho150 : own.length ≤ 150 := by omega
  unfold CliV.hand
  unfold maxLen at ho
  obtain ⟨D, hD⟩ : ∃ D, D = (own.length : Int) - c.out.length := ⟨_, rfl⟩
  have hDl : D.toNat ≤ own.length := by omega
  have hW : wrap64 ((own.length : Int) - c.out.length) = D := by unfold wrap64; omega
  have HD := hide hD
  have HDl := hide hDl
  have ho150' := ho150
  clear hby hA hC hown hol hD hDl
  unfold lastB
  rw [← HD.out]
  by_cases h30 : c.out.length ≤ 30
  · have b1 : decide ((c.out.length : Int) ≤ 30) = true := by simpa using (show (c.out.length : Int) ≤ 30 by omega)
    by_cases h0 : 0 ≤ D
    · have b2 : decide (0 ≤ D) = true := by simpa using h0
      have hDn : ((D.toNat : Nat) : Int) = D := by omega
      by_cases ha : c.acked = D
      · have b3 : (c.acked == D) = true := by simpa using ha
        have HR := hide (And.intro h30 (And.intro h0 ha))
        clear h30 h0 ha ho
        go_enter Tryz.func103, Tryz.ntmps103
        go_wp2_with (first | (go_at_call 138; refine (HBY.out _ HB0.out.2).mono ?_; rintro e w1 ⟨v1, rfl, hO1, hb1⟩; have HB1 := hide (HB0.out.step hb1); obtain ⟨ao1, cp1, bo1, cb1, rfl, hat1, hsl1⟩ := row_cut hO1 D.toNat HDl.out; have HEQ : Hid (∀ W, Below w.heap.size w W → Below w1.heap.size w1 W → Calls Tryz.prog 139 #[.slice bo1 (own.length - D.toNat) cb1, .slice oa c.out.length oc] W fun e w' => e = .returned (.bool (sameL (own.drop D.toNat) c.out)) ∧ Below W.heap.size W w') := ⟨fun W hW hW1 => by have h := equal_any (own.drop D.toNat) c.out bo1 oa cb1 oc W (by rw [List.length_drop]; omega) (by have := HR.out.1; omega) (hat1.stays hW1) (HC.out.stays hW); rw [List.length_drop] at h; exact h⟩; rw [hDn] at hsl1; clear p0 p1 p2 p3 p4 p5; obtain ⟨p0, p1, p2, p3, p4, p5⟩ := HB1.out.cells; clear hb1 hO1 hat1))
        haveI : Nonempty (ClsW fun W => HandBox w W w.heap.size c la lc oa oc ∧ Below w1.heap.size w1 W) := ⟨⟨_, HB1.out, Below.refl _ _⟩⟩
        have P3 : ∀ q : (ClsW fun W => HandBox w W w.heap.size c la lc oa oc ∧ Below w1.heap.size w1 W), q.wd.cell? ⟨w.heap.size, 3, none⟩ = some (.int .i64 c.acked) := fun q => q.ok.1.cells.2.2.2.1
        have P4 : ∀ q : (ClsW fun W => HandBox w W w.heap.size c la lc oa oc ∧ Below w1.heap.size w1 W), q.wd.cell? ⟨w.heap.size, 4, none⟩ = some (.slice oa c.out.length oc) := fun q => q.ok.1.cells.2.2.2.2.1
        clear p0 p1 p2 p3 p4 p5
        refine region_class (ι := (ClsW fun W => HandBox w W w.heap.size c la lc oa oc ∧ Below w1.heap.size w1 W)) ClsW.wd (by kernel_rfl) (by kernel_rfl) ⟨_, HB1.out.drew, (Below.refl _ _).drew⟩ rfl ?_
        repeat (go_big_quiet_step (first | (go_at_call 139; rename_i q; refine (HEQ.out _ q.ok.1.2 q.ok.2).mono ?_; rintro e w2 ⟨rfl, hw2⟩; exact ⟨rfl, ⟨w2, q.ok.1.step hw2, q.ok.2.trans (hw2.mono q.ok.2.size)⟩, rfl⟩)))
        refine wpQuiet_nil ?_
        rintro _ ⟨⟨w4, hV4⟩, rfl⟩
        have HV4 := hide hV4
        clear hV4
        go_wp2
        go_ret
        exact ⟨ret_bool (by have e1 := HR.out.1; have e2 := HR.out.2.1; have e3 := HR.out.2.2; rw [decide_eq_true e1, decide_eq_true e3, decide_eq_true (show 0 ≤ c.acked by omega), show c.acked.toNat = D.toNat by rw [e3]]; simp), HV4.out.1.2⟩
      · have b3 : (c.acked == D) = false := by simpa using ha
        have HR := hide (And.intro h30 (And.intro h0 ha))
        clear h30 h0 ha ho
        go_enter Tryz.func103, Tryz.ntmps103
        go_wp2_with (first | (go_at_call 138; refine (HBY.out _ HB0.out.2).mono ?_; rintro e w1 ⟨v1, rfl, hO1, hb1⟩; have HB1 := hide (HB0.out.step hb1); obtain ⟨ao1, cp1, bo1, cb1, rfl, hat1, hsl1⟩ := row_cut hO1 D.toNat HDl.out; clear p0 p1 p2 p3 p4 p5; obtain ⟨p0, p1, p2, p3, p4, p5⟩ := HB1.out.cells; clear hb1 hO1 hat1))
        haveI : Nonempty (ClsW fun W => HandBox w W w.heap.size c la lc oa oc ∧ Below w1.heap.size w1 W) := ⟨⟨_, HB1.out, Below.refl _ _⟩⟩
        have P3 : ∀ q : (ClsW fun W => HandBox w W w.heap.size c la lc oa oc ∧ Below w1.heap.size w1 W), q.wd.cell? ⟨w.heap.size, 3, none⟩ = some (.int .i64 c.acked) := fun q => q.ok.1.cells.2.2.2.1
        have P4 : ∀ q : (ClsW fun W => HandBox w W w.heap.size c la lc oa oc ∧ Below w1.heap.size w1 W), q.wd.cell? ⟨w.heap.size, 4, none⟩ = some (.slice oa c.out.length oc) := fun q => q.ok.1.cells.2.2.2.2.1
        clear p0 p1 p2 p3 p4 p5
        refine region_class (ι := (ClsW fun W => HandBox w W w.heap.size c la lc oa oc ∧ Below w1.heap.size w1 W)) ClsW.wd (by kernel_rfl) (by kernel_rfl) ⟨_, HB1.out.drew, (Below.refl _ _).drew⟩ rfl ?_
        repeat (go_big_quiet_step (first | (fail)))
        refine wpQuiet_nil ?_
        rintro _ ⟨⟨w4, hV4⟩, rfl⟩
        have HV4 := hide hV4
        clear hV4
        go_wp2
        go_ret
        exact ⟨ret_bool (by have e3 := HR.out.2.2; rw [decide_eq_false e3]; simp), HV4.out.1.2⟩
    · have b2 : decide (0 ≤ D) = false := by simpa using (show D < 0 by omega)
      have HR := hide (And.intro h30 h0)
      clear h30 h0 ho
      go_enter Tryz.func103, Tryz.ntmps103
      go_wp2_with (first | (go_at_call 138; refine (HBY.out _ HB0.out.2).mono ?_; rintro e w1 ⟨v1, rfl, hO1, hb1⟩; have HB1 := hide (HB0.out.step hb1); obtain ⟨ao1, cp1, bo1, cb1, rfl, hat1, hsl1⟩ := row_cut hO1 D.toNat HDl.out; clear p0 p1 p2 p3 p4 p5; obtain ⟨p0, p1, p2, p3, p4, p5⟩ := HB1.out.cells; clear hb1 hO1 hat1))
      haveI : Nonempty (ClsW fun W => HandBox w W w.heap.size c la lc oa oc ∧ Below w1.heap.size w1 W) := ⟨⟨_, HB1.out, Below.refl _ _⟩⟩
      have P3 : ∀ q : (ClsW fun W => HandBox w W w.heap.size c la lc oa oc ∧ Below w1.heap.size w1 W), q.wd.cell? ⟨w.heap.size, 3, none⟩ = some (.int .i64 c.acked) := fun q => q.ok.1.cells.2.2.2.1
      have P4 : ∀ q : (ClsW fun W => HandBox w W w.heap.size c la lc oa oc ∧ Below w1.heap.size w1 W), q.wd.cell? ⟨w.heap.size, 4, none⟩ = some (.slice oa c.out.length oc) := fun q => q.ok.1.cells.2.2.2.2.1
      clear p0 p1 p2 p3 p4 p5
      refine region_class (ι := (ClsW fun W => HandBox w W w.heap.size c la lc oa oc ∧ Below w1.heap.size w1 W)) ClsW.wd (by kernel_rfl) (by kernel_rfl) ⟨_, HB1.out.drew, (Below.refl _ _).drew⟩ rfl ?_
      repeat (go_big_quiet_step (first | (fail)))
      refine wpQuiet_nil ?_
      rintro _ ⟨⟨w4, hV4⟩, rfl⟩
      have HV4 := hide hV4
      clear hV4
      go_wp2
      go_ret
      exact ⟨ret_bool (by have e2 := HR.out.2; simp; omega), HV4.out.1.2⟩
  · have b1 : decide ((c.out.length : Int) ≤ 30) = false := by simpa using (show (30 : Int) < (c.out.length : Int) by omega)
    have HR := hide h30
    clear h30 ho
    go_enter Tryz.func103, Tryz.ntmps103
    go_wp2_with (first | (go_at_call 138; refine (HBY.out _ HB0.out.2).mono ?_; rintro e w1 ⟨v1, rfl, hO1, hb1⟩; have HB1 := hide (HB0.out.step hb1); obtain ⟨ao1, cp1, bo1, cb1, rfl, hat1, hsl1⟩ := row_cut hO1 D.toNat HDl.out; clear p0 p1 p2 p3 p4 p5; obtain ⟨p0, p1, p2, p3, p4, p5⟩ := HB1.out.cells; clear hb1 hO1 hat1))
    haveI : Nonempty (ClsW fun W => HandBox w W w.heap.size c la lc oa oc ∧ Below w1.heap.size w1 W) := ⟨⟨_, HB1.out, Below.refl _ _⟩⟩
    have P3 : ∀ q : (ClsW fun W => HandBox w W w.heap.size c la lc oa oc ∧ Below w1.heap.size w1 W), q.wd.cell? ⟨w.heap.size, 3, none⟩ = some (.int .i64 c.acked) := fun q => q.ok.1.cells.2.2.2.1
    have P4 : ∀ q : (ClsW fun W => HandBox w W w.heap.size c la lc oa oc ∧ Below w1.heap.size w1 W), q.wd.cell? ⟨w.heap.size, 4, none⟩ = some (.slice oa c.out.length oc) := fun q => q.ok.1.cells.2.2.2.2.1
    clear p0 p1 p2 p3 p4 p5
    refine region_class (ι := (ClsW fun W => HandBox w W w.heap.size c la lc oa oc ∧ Below w1.heap.size w1 W)) ClsW.wd (by kernel_rfl) (by kernel_rfl) ⟨_, HB1.out.drew, (Below.refl _ _).drew⟩ rfl ?_
    repeat (go_big_quiet_step (first | (fail)))
    refine wpQuiet_nil ?_
    rintro _ ⟨⟨w4, hV4⟩, rfl⟩
    have HV4 := hide hV4
    clear hV4
    go_wp2
    go_ret
    exact ⟨ret_bool (by have e1 := HR.out; simp; omega), HV4.out.1.2⟩
end Go.Proofs.YtfkgmkcndchkjaaGreatDoor.OpR
