/- Proves what slices.Grow makes of no ops: room. Proves what slices.Concat makes of two rows of ops. Proves what spec's copies of a client are, and what it tells of a fault. Proves what spec.Ack answers. Proves what spec.l06Full and spec.l06Put answer. -/
import Derived.Test.YtfkgmkcndchkjaaGreatDoorRowO
import Derived.Lib.AppendZerosOnto
import Derived.Test.YtfkgmkcndchkjaaGreatDoorAddW
import Derived.Test.YtfkgmkcndchkjaaGreatDoorCliH
import Derived.Test.YtfkgmkcndchkjaaGreatDoorCliS
import Derived.Test.YtfkgmkcndchkjaaGreatDoorCliQ
import Derived.Test.YtfkgmkcndchkjaaGreatDoorCliF
import Derived.Test.YtfkgmkcndchkjaaGreatDoorCameC
import Derived.Test.YtfkgmkcndchkjaaGreatDoorMgD
import Derived.Maps.AppendAt
namespace Go.Proofs.YtfkgmkcndchkjaaGreatDoor.OpR
open Go.ChangeShapes Go.WideShapes Go.ChangeAt Go.RowKit
set_option linter.unusedVariables false

/-- An append whose run is known. -/
theorem wpList_append_run {ops : Array Oper} {rest : List Oper} {o : Oper} {a : Act} {w : World} {Q : Exit → Act → World → Prop} (hgd : o.guard = none) (s x : Operand) (t1 t2 : TypeId)
    (ho : o.op = .call { callee := .builtin .append, args := #[s, x], argTypes := #[t1, t2] }) (v1 v2 : Value) (hs : a.eval s = v1) (hx : a.eval x = v2) (v : Value) (w' : World)
    (hrun : (Builtin.append_ #[t1, t2] o.type #[v1, v2]).run Tryz.prog w = .ok v w') (h : wpList Tryz.prog ops Q rest (a.put o.dst v) w') : wpList Tryz.prog ops Q (o :: rest) a w := by
  refine wpList_plain hgd fun K hK => ?_
  unfold Oper.wp execOp
  simp only [ho, resolve, invoke, builtin, Sem.run_bind, Sem.run_pure, Result.andThen_ok, List.map_toArray, List.map_cons, List.map_nil, hs, hx, hrun]
  exact hK _ _ h
set_option maxRecDepth 100000 in
set_option maxHeartbeats 1000000 in
theorem grow_any (n : Nat) (hn : n ≤ 4000) (w : World) :
    Calls Tryz.prog 113 #[.slice none 0 0, .int .i64 (n : Int)] w fun e w' => ∃ v, e = .returned v ∧ w'.ownsRow w.heap.size 30 7 v 0 [] ∧ Below w.heap.size w w' := by
  have hneg : ¬ ((n : Int) < 0) := by omega
  have hwr : wrap64 (n : Int) = (n : Int) := by unfold wrap64; omega
  by_cases h0 : n = 0
  · subst h0
    go_enter Tryz.func113, Tryz.ntmps113
    go_wp2
    go_ret
    exact ⟨_, rfl, ⟨rfl, .inl ⟨rfl, rfl⟩⟩, Below.refl _ _⟩
  · obtain ⟨i0, hi, hzz⟩ := Option.map_eq_some_iff.1 infoOp
    simp only [Prod.mk.injEq] at hzz
    obtain ⟨hz0, hz1, hz2⟩ := hzz
    have hcapn : Builtin.nextslicecap n 0 = n := by unfold Builtin.nextslicecap; simp; omega
    have happ : ∀ ty, (Builtin.append_ #[26, 3] ty #[.slice none 0 0, .int .i64 (n : Int)]).run Tryz.prog w = .ok (.slice (some ⟨w.heap.size, 0, none⟩) n (grownCap w n 0 30))
        (w.drew.alloc (.cells (Builtin.zeroCells #[.int .i64 0, .int .i64 0, .int .i64 0, .int .i64 0, .int .i64 0, .string ⟨#[]⟩, .string ⟨#[]⟩] n ++ Builtin.zeroCells #[.int .i64 0, .int .i64 0, .int .i64 0, .int .i64 0, .int .i64 0, .string ⟨#[]⟩, .string ⟨#[]⟩] (grownCap w n 0 30 - n)) 30)) := fun ty => by
      have h := Lib.run_append_grow_zeros w 26 3 ty 30 i0 _ .i64 .i64 Tryz.underlying26 Tryz.underlying3 hi hz0 none 0 0 [] (by simp [Builtin.firstCells]) n (by omega) (by rw [hz1]; omega) (by omega) (by omega) (by rw [hz2]; omega) (by rw [Nat.zero_add, hcapn, hz2]; omega)
      simpa [Value.cells] using h
    obtain ⟨G, hG⟩ : ∃ G, G = grownCap w n 0 30 := ⟨_, rfl⟩
    have hG1 : n ≤ G := by rw [hG]; exact grownCap_ge w n 0 _
    have hG2 : G ≤ maxLen := by rw [hG]; exact grownCap_le_maxLen w n 0 _ (by unfold maxLen; omega)
    rw [← hG] at happ
    obtain ⟨ROW, hROW⟩ : ∃ ROW, ROW = Builtin.zeroCells #[.int .i64 0, .int .i64 0, .int .i64 0, .int .i64 0, .int .i64 0, .string ⟨#[]⟩, .string ⟨#[]⟩] n ++ Builtin.zeroCells #[.int .i64 0, .int .i64 0, .int .i64 0, .int .i64 0, .int .i64 0, .string ⟨#[]⟩, .string ⟨#[]⟩] (G - n) := ⟨_, rfl⟩
    have hRs : ROW.size = G * 7 := by
      rw [hROW]
      simp [Builtin.zeroCells]
      omega
    rw [← hROW] at happ
    have hown : (w.drew.alloc (.cells ROW 30)).ownsRow w.heap.size 30 7 (.slice (some ⟨w.heap.size, 0, none⟩) 0 G) 0 [] := World.ownsRow_made w.drew ROW G (Nat.le_refl _) hG2 hRs
    have hbw : Below w.heap.size w (w.drew.alloc (.cells ROW 30)) := ((Below.refl _ _).drew).alloc (Nat.le_refl _) _
    obtain ⟨W1, hW1⟩ : ∃ W1, W1 = w.drew.alloc (.cells ROW 30) := ⟨_, rfl⟩
    rw [← hW1] at happ hown hbw
    have HOwn := hide hown
    have HBw := hide hbw
    have hs1 : ∀ W, (Instr.slice 26 (.slice none 0 0) none (some (.int .i64 0)) none).run Tryz.prog W = .ok (.slice none 0 0) W := fun W => by kernel_rfl
    have hs2 : ∀ W, (Instr.slice 26 (.slice (some ⟨w.heap.size, 0, none⟩) n G) none (some (.int .i64 0)) none).run Tryz.prog W = .ok (.slice (some ⟨w.heap.size, 0, none⟩) 0 G) W := fun W => by
      have ht : Tryz.prog.underlying 26 = some (.slice (Tryz.prog.elem 26)) := by kernel_rfl
      have hs : ∀ w, (sizeOf (Tryz.prog.elem 26)).run Tryz.prog w = .ok 7 w := fun _ => by kernel_rfl
      rw [run_slice_h W 26 (some ⟨w.heap.size, 0, none⟩) n G ht .i64 (0 : Int) (by omega) (by omega), hs]
      simp only [Result.andThen, sliced, Option.map_some, add_plain]
      have hG0 : ¬ G = 0 := by omega
      simp [hG0]
    have hpos : (0 : Int) < (n : Int) := by omega
    have hpos2 : decide (0 < n) = true := by simp; omega
    have HApp := hide happ
    clear happ hown hbw hW1 hROW hRs hG hi hz0 hz1 hz2 hcapn
    go_enter Tryz.func113, Tryz.ntmps113
    go_wp2_with (first | (at_builtin; refine wpList_append_run rfl _ _ _ _ rfl _ _ rfl rfl _ _ (HApp.out _) ?_) | fail)
    go_ret
    exact ⟨_, rfl, HOwn.out, HBw.out⟩
end Go.Proofs.YtfkgmkcndchkjaaGreatDoor.OpR
namespace Go.Proofs.YtfkgmkcndchkjaaGreatDoor.OpR
open Go.ChangeShapes Go.WideShapes Go.ChangeAt Go.RowKit
set_option linter.unusedVariables false

theorem len_150k {l : List OpV} (h : l.length ≤ 150) : ([] : List OpV).length + l.length ≤ 4000000 := by rw [List.length_nil]; omega
theorem own_base {w : World} {base n : Nat} {T : TypeId} {v : Value} {xs : List Value} (h : w.ownsRow base T 7 v n xs) : ∀ k, v.ownBlock = some k → base ≤ k := fun k hk => (h.lt k hk).1
set_option maxRecDepth 100000 in
set_option maxHeartbeats 1000000 in
theorem concat_any (x y : List OpV) (xa ya : Option Addr) (xc yc ga : Nat) (w : World) (hx : x.length ≤ 150) (hy : y.length ≤ 400) (hg : ga < w.heap.size)
    (h0 : w.cell? ⟨ga, 0, none⟩ = some (.slice xa x.length xc)) (h1 : w.cell? ⟨ga, 1, none⟩ = some (.slice ya y.length yc)) (hA : OpsAt w xa x) (hB : OpsAt w ya y) :
    Calls Tryz.prog 79 #[.slice (some ⟨ga, 0, none⟩) 2 2] w fun e w' => ∃ v, e = .returned v ∧ w'.ownsRow w.heap.size 30 7 v (x ++ y).length (flat (x ++ y)) ∧ Below w.heap.size w w' := by
  have hc0 : ∀ W, Below w.heap.size w W → W.cell? ⟨ga, 0, none⟩ = some (.slice xa x.length xc) := fun W hW => (hW.cell hg).trans h0
  have hc1 : ∀ W, Below w.heap.size w W → W.cell? ⟨ga, 1, none⟩ = some (.slice ya y.length yc) := fun W hW => (hW.cell hg).trans h1
  have HC := hide (And.intro hc0 hc1)
  have HA := hide hA
  have HB := hide hB
  have hgr := fun (n : Nat) (hn : n ≤ 4000) W => grow_any n hn W
  have HG := hide hgr
  have hw1 : wrap64 (x.length : Int) = (x.length : Int) := by unfold wrap64; omega
  have hw2 : wrap64 ((x.length : Int) + (y.length : Int)) = (x.length : Int) + (y.length : Int) := by unfold wrap64; omega
  have hn1 : ¬ ((x.length : Int) < 0) := by omega
  have hn2 : ¬ ((x.length : Int) + (y.length : Int) < 0) := by omega
  clear hc0 hc1 hA hB hgr
  go_enter Tryz.func79, Tryz.ntmps79
  go_wp2
  go_loopw [3, 11] (fun z i wr => w = wr ∧ ((i = .int .i64 0 ∧ z = .int .i64 0) ∨ (i = .int .i64 1 ∧ z = .int .i64 x.length) ∨ (i = .int .i64 2 ∧ z = .int .i64 ((x.length : Int) + (y.length : Int))))) (fun _ i _ => 2 - (intOf i).toNat)
  case atStart => exact ⟨rfl, .inl ⟨rfl, rfl⟩⟩
  case round =>
    obtain ⟨rfl, ⟨rfl, rfl⟩ | ⟨rfl, rfl⟩ | ⟨rfl, rfl⟩⟩ := hrel
    · go_wp2
      go_roundw
      case rel => exact ⟨by simp, .inr (.inl ⟨by simp, by simp⟩)⟩
      case measure => simp [intOf]
    · go_wp2
      go_roundw
      case rel => exact ⟨by simp, .inr (.inr ⟨by simp, by simp⟩)⟩
      case measure => simp [intOf]
    · clear h0 h1
      go_wp2_with (first | (go_at_call 113; (refine (HG.out (x.length + y.length) (by omega) _).mono ?_); rintro e w1 ⟨v1, rfl, ho1, hb1⟩; have HO1 := hide ho1; have HB1 := hide hb1; clear ho1 hb1) | fail)
      go_loopw [6, 27] (fun v i w2 => Below w.heap.size w w2 ∧ ((i = .int .i64 0 ∧ w2.ownsRow w.heap.size 30 7 v ([] : List OpV).length (flat [])) ∨ (i = .int .i64 1 ∧ w2.ownsRow w.heap.size 30 7 v x.length (flat x)) ∨ (i = .int .i64 2 ∧ w2.ownsRow w.heap.size 30 7 v (x ++ y).length (flat (x ++ y))))) (fun _ i _ => 2 - (intOf i).toNat)
      case atStart => exact ⟨HB1.out, .inl ⟨rfl, HO1.out⟩⟩
      case round =>
        obtain ⟨hb, ⟨rfl, ho⟩ | ⟨rfl, ho⟩ | ⟨rfl, ho⟩⟩ := hrel
        · have c0 := HC.out.1 wr hb
          have HO := hide ho
          have HBw := hide hb
          clear ho hb
          go_wp2_with (first | (at_builtin; refine wpList_append_ops rfl _ _ rfl w.heap.size _ [] rfl HO.out xa x xc rfl (HA.out.stays HBw.out) (len_150k hx) HBw.out.size ?_; intro v3 w3 ho3 hg3 _; have HO3 := hide ho3; have HG3 := hide hg3; clear ho3 hg3) | fail)
          go_roundw
          case rel => exact ⟨HBw.out.grown HG3.out HBw.out.size (own_base HO.out), .inr (.inl ⟨by simp, HO3.out⟩)⟩
          case measure => simp [intOf]
        · have c1 := HC.out.2 wr hb
          have HO := hide ho
          have HBw := hide hb
          clear ho hb
          go_wp2_with (first | (at_builtin; refine wpList_append_ops rfl _ _ rfl w.heap.size _ x rfl HO.out ya y yc rfl (HB.out.stays HBw.out) (by omega) HBw.out.size ?_; intro v3 w3 ho3 hg3 _; have HO3 := hide ho3; have HG3 := hide hg3; clear ho3 hg3) | fail)
          go_roundw
          case rel => exact ⟨HBw.out.grown HG3.out HBw.out.size (own_base HO.out), .inr (.inr ⟨by simp, HO3.out⟩)⟩
          case measure => simp [intOf]
        · have HO := hide ho
          have HBw := hide hb
          clear ho hb
          go_wp2
          go_ret
          exact ⟨_, rfl, HO.out, HBw.out⟩
end Go.Proofs.YtfkgmkcndchkjaaGreatDoor.OpR
namespace Go.Proofs.YtfkgmkcndchkjaaGreatDoor.OpR
open Go.ChangeShapes Go.WideShapes Go.ChangeAt Go.RowKit
set_option linter.unusedVariables false

theorem OwnAt.lower {w : World} {base base' : Nat} {T : TypeId} {v : Value} {l : List OpV} (h : OwnAt w base T v l) (hb : base' ≤ base) : OwnAt w base' T v l := ⟨owns_base h.1 hb, h.2⟩
/-- What spec tells. -/
def STold (w w' : World) (e : Ending) (x : OutV) : Prop := ∃ la lc oa oc, e = .returned (x.agg la lc oa oc) ∧ OpsAt w' la x.cl.log ∧ OpsAt w' oa x.cl.out ∧ Below w.heap.size w w'
theorem STold.ill {w w' : World} {code : Int} (hb : Below w.heap.size w w') : STold w w' (.returned ((OutV.ill code).agg none 0 none 0)) (OutV.ill code) :=
  ⟨none, 0, none, 0, rfl, fun j hj => absurd hj (by simp [OutV.ill, CliV.zero]), fun j hj => absurd hj (by simp [OutV.ill, CliV.zero]), hb⟩
set_option maxRecDepth 100000 in
set_option maxHeartbeats 400000 in
theorem sIll_any (code : Int) (w : World) :
    Calls Tryz.prog 39 #[.int .i64 code] w fun e w' => e = .returned (.agg #[.int .i64 0, .int .i64 0, .slice none 0 0, .int .i64 0, .slice none 0 0, .int .i64 0, .int .i64 0, .int .i64 0, .int .i64 0, .int .i64 0, .int .i64 0, .string ⟨#[]⟩, .string ⟨#[]⟩, .int .i64 0, .int .i64 code]) ∧ Below w.heap.size w w' := by
  go_enter Tryz.func39, Tryz.ntmps39
  go_wp2
  refine bodyPost_ret (v := .agg #[.int .i64 0, .int .i64 0, .slice none 0 0, .int .i64 0, .slice none 0 0, .int .i64 0, .int .i64 0, .int .i64 0, .int .i64 0, .int .i64 0, .int .i64 0, .string ⟨#[]⟩, .string ⟨#[]⟩, .int .i64 0, .int .i64 code]) (by simp [results, Tryz.results39, go_sem]) rfl ⟨rfl, (Below.refl _ _).alloc (Nat.le_refl _) _⟩
set_option maxRecDepth 100000 in
set_option maxHeartbeats 1000000 in
theorem sCopy_any (c : CliV) (la oa : Option Addr) (lc oc : Nat) (w : World) (hl : c.log.length ≤ 150) (ho : c.out.length ≤ 150) (hA : OpsAt w la c.log) (hC : OpsAt w oa c.out) :
    Calls Tryz.prog 74 #[c.agg la lc oa oc] w fun e w' => ∃ v1 v2, e = .returned (.agg #[.int .i64 c.repl, .int .i64 c.clock, v1, .int .i64 c.acked, v2, .int .i64 c.got]) ∧ OwnAt w' w.heap.size 30 v1 c.log ∧ OwnAt w' w.heap.size 30 v2 c.out ∧ v1.ownBlock ≠ v2.ownBlock ∧ Below w.heap.size w w' := by
  have HA := hide hA
  have HC := hide hC
  have HB0 := hide (CliBox.new w 28 c la lc oa oc)
  unfold CliV.agg
  clear hA hC
  have hE : (((w.alloc (.cells #[.int .i64 c.repl, .int .i64 c.clock, .slice la c.log.length lc, .int .i64 c.acked, .slice oa c.out.length oc, .int .i64 c.got] 28)).alloc (.cells #[.int .i64 0, .int .i64 0, .slice none 0 0, .int .i64 0, .slice none 0 0, .int .i64 0] 28)).alloc (.cells #[] 30)).ownsRow (w.heap.size + 1 + 1) 30 7 (.slice (some ⟨w.heap.size + 1 + 1, 0, none⟩) 0 0) 0 [] := by
    have h := empty_row ((w.alloc (.cells #[.int .i64 c.repl, .int .i64 c.clock, .slice la c.log.length lc, .int .i64 c.acked, .slice oa c.out.length oc, .int .i64 c.got] 28)).alloc (.cells #[.int .i64 0, .int .i64 0, .slice none 0 0, .int .i64 0, .slice none 0 0, .int .i64 0] 28))
    rw [show ((w.alloc (.cells #[.int .i64 c.repl, .int .i64 c.clock, .slice la c.log.length lc, .int .i64 c.acked, .slice oa c.out.length oc, .int .i64 c.got] 28)).alloc (.cells #[.int .i64 0, .int .i64 0, .slice none 0 0, .int .i64 0, .slice none 0 0, .int .i64 0] 28)).heap.size = w.heap.size + 1 + 1 by simp] at h
    exact h
  have hP : Six (((w.alloc (.cells #[.int .i64 c.repl, .int .i64 c.clock, .slice la c.log.length lc, .int .i64 c.acked, .slice oa c.out.length oc, .int .i64 c.got] 28)).alloc (.cells #[.int .i64 0, .int .i64 0, .slice none 0 0, .int .i64 0, .slice none 0 0, .int .i64 0] 28)).alloc (.cells #[] 30)) w.heap.size 28 (.int .i64 c.repl) (.int .i64 c.clock) (.slice la c.log.length lc) (.int .i64 c.acked) (.slice oa c.out.length oc) (.int .i64 c.got) := by
    have h : Six (w.alloc (.cells #[.int .i64 c.repl, .int .i64 c.clock, .slice la c.log.length lc, .int .i64 c.acked, .slice oa c.out.length oc, .int .i64 c.got] 28)) w.heap.size 28 (.int .i64 c.repl) (.int .i64 c.clock) (.slice la c.log.length lc) (.int .i64 c.acked) (.slice oa c.out.length oc) (.int .i64 c.got) := heap_alloc_new w _
    exact (h.step ((Below.refl _ _).alloc (Nat.le_refl _) _)).step ((Below.refl _ _).alloc (Nat.le_refl _) _)
  have hR : Six (((w.alloc (.cells #[.int .i64 c.repl, .int .i64 c.clock, .slice la c.log.length lc, .int .i64 c.acked, .slice oa c.out.length oc, .int .i64 c.got] 28)).alloc (.cells #[.int .i64 0, .int .i64 0, .slice none 0 0, .int .i64 0, .slice none 0 0, .int .i64 0] 28)).alloc (.cells #[] 30)) (w.heap.size + 1) 28 (.int .i64 0) (.int .i64 0) (.slice none 0 0) (.int .i64 0) (.slice none 0 0) (.int .i64 0) := by
    have h := heap_alloc_new (w.alloc (.cells #[.int .i64 c.repl, .int .i64 c.clock, .slice la c.log.length lc, .int .i64 c.acked, .slice oa c.out.length oc, .int .i64 c.got] 28)) (.cells #[.int .i64 0, .int .i64 0, .slice none 0 0, .int .i64 0, .slice none 0 0, .int .i64 0] 28)
    rw [show (w.alloc (.cells #[.int .i64 c.repl, .int .i64 c.clock, .slice la c.log.length lc, .int .i64 c.acked, .slice oa c.out.length oc, .int .i64 c.got] 28)).heap.size = w.heap.size + 1 by simp] at h
    have h2 : Six ((w.alloc (.cells #[.int .i64 c.repl, .int .i64 c.clock, .slice la c.log.length lc, .int .i64 c.acked, .slice oa c.out.length oc, .int .i64 c.got] 28)).alloc (.cells #[.int .i64 0, .int .i64 0, .slice none 0 0, .int .i64 0, .slice none 0 0, .int .i64 0] 28)) (w.heap.size + 1) 28 (.int .i64 0) (.int .i64 0) (.slice none 0 0) (.int .i64 0) (.slice none 0 0) (.int .i64 0) := h
    exact h2.step ((Below.refl _ _).alloc (Nat.le_refl _) _)
  have hB : Below w.heap.size w (((w.alloc (.cells #[.int .i64 c.repl, .int .i64 c.clock, .slice la c.log.length lc, .int .i64 c.acked, .slice oa c.out.length oc, .int .i64 c.got] 28)).alloc (.cells #[.int .i64 0, .int .i64 0, .slice none 0 0, .int .i64 0, .slice none 0 0, .int .i64 0] 28)).alloc (.cells #[] 30)) := (((Below.refl _ _).alloc (Nat.le_refl _) _).alloc (by simp) _).alloc (by simp; omega) _
  have hAx := HA.out.stays hB
  have HE := hide hE
  have HP := hide hP
  have HR := hide hR
  have HBe := hide hB
  have HAx := hide hAx
  clear hE hP hR hB hAx
  obtain ⟨p0, p1, p2, p3, p4, p5, f0, f1, f2, f3, f4, f5⟩ := HP.out.cells
  go_enter Tryz.func74, Tryz.ntmps74
  go_wp2_with (at_builtin; (refine wpList_append_ops rfl _ _ rfl (w.heap.size + 1 + 1) _ [] rfl HE.out la c.log lc rfl HAx.out (by simp <;> omega) (by simp) ?_))
  intro v1 w1 hown1 hgr1 hne1
  have hs3 : (((w.alloc (.cells #[.int .i64 c.repl, .int .i64 c.clock, .slice la c.log.length lc, .int .i64 c.acked, .slice oa c.out.length oc, .int .i64 c.got] 28)).alloc (.cells #[.int .i64 0, .int .i64 0, .slice none 0 0, .int .i64 0, .slice none 0 0, .int .i64 0] 28)).alloc (.cells #[] 30)).heap.size = w.heap.size + 1 + 1 + 1 := by simp
  have hP1 : Six w1 w.heap.size 28 (.int .i64 c.repl) (.int .i64 c.clock) (.slice la c.log.length lc) (.int .i64 c.acked) (.slice oa c.out.length oc) (.int .i64 c.got) := (hgr1.block _ (by omega) (fun e => by simp [Value.ownBlock] at e; omega)).trans HP.out
  have hR1 : Six w1 (w.heap.size + 1) 28 (.int .i64 0) (.int .i64 0) (.slice none 0 0) (.int .i64 0) (.slice none 0 0) (.int .i64 0) := (hgr1.block _ (by omega) (fun e => by simp [Value.ownBlock] at e)).trans HR.out
  have hB1 : Below w.heap.size w w1 := HBe.out.grown hgr1 (by omega) (fun j hj => by simp [Value.ownBlock] at hj; omega)
  have HOw1 : Hid (OwnAt w1 (w.heap.size + 1 + 1) 30 v1 c.log) := ⟨by simpa using hown1, fun e => by first | exact hne1 e | (have := (hne1.1 e).1; simp at this)⟩
  have Hs1 := hide (Nat.le_trans (Nat.le_of_eq hs3.symm) hgr1.size)
  obtain ⟨h1, c1, rfl, hh1, hlt1, _, _, _⟩ := HOw1.out.at
  have hE2 : ((w1.setCell ⟨w.heap.size, 2, none⟩ (.slice (some ⟨h1, 0, none⟩) c.log.length c1)).alloc (.cells #[] 30)).ownsRow w1.heap.size 30 7 (.slice (some ⟨w1.heap.size, 0, none⟩) 0 0) 0 [] := by
    have h := empty_row (w1.setCell ⟨w.heap.size, 2, none⟩ (.slice (some ⟨h1, 0, none⟩) c.log.length c1))
    rw [show (w1.setCell ⟨w.heap.size, 2, none⟩ (.slice (some ⟨h1, 0, none⟩) c.log.length c1)).heap.size = w1.heap.size by simp] at h
    exact h
  have hw1 : w.heap.size < w1.heap.size := by have := Hs1.out; omega
  have hP2 : Six ((w1.setCell ⟨w.heap.size, 2, none⟩ (.slice (some ⟨h1, 0, none⟩) c.log.length c1)).alloc (.cells #[] 30)) w.heap.size 28 (.int .i64 c.repl) (.int .i64 c.clock) (.slice (some ⟨h1, 0, none⟩) c.log.length c1) (.int .i64 c.acked) (.slice oa c.out.length oc) (.int .i64 c.got) := (Six.set2 hP1 _).step ((Below.refl _ _).alloc (Nat.le_refl _) _)
  have hR2 : Six ((w1.setCell ⟨w.heap.size, 2, none⟩ (.slice (some ⟨h1, 0, none⟩) c.log.length c1)).alloc (.cells #[] 30)) (w.heap.size + 1) 28 (.int .i64 0) (.int .i64 0) (.slice none 0 0) (.int .i64 0) (.slice none 0 0) (.int .i64 0) := (Six.other hR1 (by omega)).step ((Below.refl _ _).alloc (Nat.le_refl _) _)
  have hB2 : Below w.heap.size w ((w1.setCell ⟨w.heap.size, 2, none⟩ (.slice (some ⟨h1, 0, none⟩) c.log.length c1)).alloc (.cells #[] 30)) := (hB1.setCell (p := ⟨w.heap.size, 2, none⟩) (Nat.le_refl _) _).alloc (by simp; omega) _
  have hC2 := HC.out.stays hB2
  have hO2 : OwnAt ((w1.setCell ⟨w.heap.size, 2, none⟩ (.slice (some ⟨h1, 0, none⟩) c.log.length c1)).alloc (.cells #[] 30)) (w.heap.size + 1 + 1) 30 (.slice (some ⟨h1, 0, none⟩) c.log.length c1) c.log := (OwnAt.setCell HOw1.out (by omega)).below ((Below.refl _ _).alloc (Nat.le_refl _) _)
  have HP2 := hide hP2
  have HR2 := hide hR2
  have HB2 := hide hB2
  have HE2 := hide hE2
  have HC2 := hide hC2
  have HO2 := hide hO2
  have HH1 := hide (And.intro hh1 hlt1)
  clear p0 p1 p2 p3 p4 p5 f0 f1 f2 f3 f4 f5 hown1 hgr1 hne1 hR1 hB1 hs3 hP2 hR2 hB2 hE2 hC2 hO2 hh1 hlt1
  obtain ⟨p0, p1, p2, p3, p4, p5, f0, f1, f2, f3, f4, f5⟩ := Six.cells hP1
  clear hP1
  go_wp2_with (at_builtin; (refine wpList_append_ops rfl _ _ rfl w1.heap.size _ [] rfl HE2.out oa c.out oc rfl HC2.out (by simp <;> omega) (by simp) ?_))
  intro v2 w2 hown2 hgr2 hne2
  have hs3 : ((w1.setCell ⟨w.heap.size, 2, none⟩ (.slice (some ⟨h1, 0, none⟩) c.log.length c1)).alloc (.cells #[] 30)).heap.size = w1.heap.size + 1 := by simp
  have hP3 : Six w2 w.heap.size 28 (.int .i64 c.repl) (.int .i64 c.clock) (.slice (some ⟨h1, 0, none⟩) c.log.length c1) (.int .i64 c.acked) (.slice oa c.out.length oc) (.int .i64 c.got) := (hgr2.block _ (by omega) (fun e => by simp [Value.ownBlock] at e; omega)).trans HP2.out
  have hR3 : Six w2 (w.heap.size + 1) 28 (.int .i64 0) (.int .i64 0) (.slice none 0 0) (.int .i64 0) (.slice none 0 0) (.int .i64 0) := (hgr2.block _ (by have := Hs1.out; omega) (fun e => by have := Hs1.out; simp [Value.ownBlock] at e; omega)).trans HR2.out
  have hB3 : Below w.heap.size w w2 := HB2.out.grown hgr2 (by omega) (fun j hj => by simp [Value.ownBlock] at hj; omega)
  have hO3 : OwnAt w2 (w.heap.size + 1 + 1) 30 (.slice (some ⟨h1, 0, none⟩) c.log.length c1) c.log := ⟨HO2.out.1.kept hgr2 (.inr (fun e => by have := HH1.out.2; simp [Value.ownBlock] at e; omega)), HO2.out.2⟩
  have HOw2 : Hid (OwnAt w2 w1.heap.size 30 v2 c.out) := ⟨by simpa using hown2, fun e => by first | exact hne2 e | (have := (hne2.1 e).1; simp at this)⟩
  obtain ⟨h2, c2, rfl, hh2, hlt2, _, _, _⟩ := HOw2.out.at
  have HP3 := hide hP3
  have HR3 := hide hR3
  have HB3 := hide hB3
  have HO3 := hide hO3
  have HH2 := hide (And.intro hh2 hlt2)
  clear p0 p1 p2 p3 p4 p5 f0 f1 f2 f3 f4 f5 hown2 hgr2 hne2 hs3 hP3 hR3 hB3 hO3 hh2 hlt2
  obtain ⟨p0, p1, p2, p3, p4, p5, f0, f1, f2, f3, f4, f5⟩ := HP3.out.cells
  obtain ⟨r0, r1, r2, r3, r4, r5, g0, g1, g2, g3, g4, g5⟩ := HR3.out.cells
  go_wp2
  have hh1 := HH1.out
  have hh2 := HH2.out
  have hs1 := Hs1.out
  have hb3 := HB3.out.size
  refine bodyPost_ret (v := .agg #[.int .i64 c.repl, .int .i64 c.clock, .slice (some ⟨h1, 0, none⟩) c.log.length c1, .int .i64 c.acked, .slice (some ⟨h2, 0, none⟩) c.out.length c2, .int .i64 c.got]) (by simp [results, Tryz.results74, go_sem, r0, r1, r2, r3, r4, r5]) rfl ⟨_, _, rfl, ?_, ?_, ?_, ?_⟩
  · refine OwnAt.lower (base := w.heap.size + 1 + 1) ?_ (by omega)
    exact OwnAt.setCell (OwnAt.setCell (OwnAt.setCell (OwnAt.setCell (OwnAt.setCell (OwnAt.setCell (OwnAt.setCell HO3.out (by omega)) (by omega)) (by omega)) (by omega)) (by omega)) (by omega)) (by omega)
  · refine OwnAt.lower (base := w1.heap.size) ?_ (by omega)
    exact OwnAt.setCell (OwnAt.setCell (OwnAt.setCell (OwnAt.setCell (OwnAt.setCell (OwnAt.setCell (OwnAt.setCell HOw2.out (by omega)) (by omega)) (by omega)) (by omega)) (by omega)) (by omega)) (by omega)
  · simp [Value.ownBlock]
    omega
  · exact ((((((HB3.out.setCell (by simp) _).setCell (by simp) _).setCell (by simp) _).setCell (by simp) _).setCell (by simp) _).setCell (by simp) _).setCell (by simp) _
end Go.Proofs.YtfkgmkcndchkjaaGreatDoor.OpR
namespace Go.Proofs.YtfkgmkcndchkjaaGreatDoor.OpR
open Go.ChangeShapes Go.WideShapes Go.ChangeAt Go.RowKit
set_option linter.unusedVariables false

theorem cli_few {c : CliV} (h : cliRight c = true) : c.log.length ≤ 150 ∧ c.out.length ≤ 30 := by
  have hr := (cliR_iff c).1 h
  exact ⟨hr.log.2.1, hr.few⟩
set_option maxRecDepth 100000 in
set_option maxHeartbeats 1000000 in
theorem sAck_ok (c : CliV) (la oa : Option Addr) (lc oc : Nat) (many : Int) (w : World) (hz : CSz maxLen c) (hm : Num64 many) (hA : OpsAt w la c.log) (hC : OpsAt w oa c.out) (hcr : cliRight c = true) (hm1 : ¬ many < c.acked) (hm2 : ¬ c.acked + (c.out.length : Int) < many) :
    Calls Tryz.prog 124 #[c.agg la lc oa oc, .int .i64 many] w fun e w' => STold w w' e (ackRes c many) := by
  have hr := fun W (hW : Below w.heap.size w W) => sRight_any c la oa lc oc W hz (hA.stays hW) (hC.stays hW)
  have hil := sIll_any
  have hcp := fun W (hcr : cliRight c = true) (hW : Below w.heap.size w W) => sCopy_any c la oa lc oc W (cli_few hcr).1 (by have := (cli_few hcr).2; omega) (hA.stays hW) (hC.stays hW)
  have hB0 := FB.start w c la lc oa oc
  have HB0 := hide hB0
  have HR := hide hr
  have HIL := hide hil
  obtain ⟨p0, p1, p2, p3, p4, p5⟩ := hB0.cli.cells
  have hrange := fun h => (cliR_iff c).1 h
  unfold CliV.agg at *
  clear hr hil hA hC hz hB0
  have HCP := hide (fun W hW => hcp W hcr hW)
  have hR := hrange hcr
  have hfew := hR.few
  have hlow := hR.low
  have hack : c.acked ≤ 150 := by have := hR.acked; have := own_len c.log c.repl; have := hR.log.2.1; omega
  have hwr : wrap64 (c.acked + (c.out.length : Int)) = c.acked + (c.out.length : Int) := by unfold wrap64; omega
  have HCR := hide hcr
  simp only [hcr] at HR
  clear hrange hcp hR
  obtain ⟨k, hk⟩ : ∃ k : Nat, many - c.acked = (k : Int) := ⟨(many - c.acked).toNat, by omega⟩
  have HK := hide hk
  have HF : Hid (ackRes c many = ⟨⟨c.repl, c.clock, c.log, many, c.out.drop k, c.got⟩, OpV.zero, 0, 0⟩) := ⟨by
    have e : (many - c.acked).toNat = k := by omega
    simp only [ackRes, HCR.out]
    rw [if_neg (by decide), if_neg (by omega), e]⟩
  have hkl : k ≤ c.out.length := by omega
  have hwm : wrap64 (many - c.acked) = many - c.acked := by unfold wrap64; omega
  rw [HF.out]
  clear hcr hk
  go_enter Tryz.func124, Tryz.ntmps124
  go_wp2_with (first | (go_at_call 40; (refine (HR.out _ HB0.out.cli.2).mono ?_); rintro e w1 ⟨rfl, hb1⟩; have HB1 := hide (HB0.out.step hb1); clear p0 p1 p2 p3 p4 p5 hb1; obtain ⟨p0, p1, p2, p3, p4, p5⟩ := HB1.out.cli.cells) | (go_at_call 74; (refine (HCP.out _ HB1.out.cli.2).mono ?_); rintro e w2 ⟨v1, v2, rfl, ho1, ho2, hne, hb2⟩; obtain ⟨h1, c1, rfl, hh1, hlt1, hc1, _, hat1⟩ := ho1.at; obtain ⟨h2, c2, rfl, hh2, hlt2, hc2, _, hat2⟩ := ho2.at; have HAt1 := hide hat1; have HAt2 := hide hat2; have HH := hide (And.intro (And.intro hh1 hlt1) (And.intro hh2 hlt2)); have HB2 := hide (HB1.out.step hb2); clear p0 p1 p2 p3 p4 p5 hb2; obtain ⟨p0, p1, p2, p3, p4, p5⟩ := HB2.out.cli.cells; have hz2 := HB2.out.lt; have hz3 : w.heap.size < w2.heap.size := (by omega); have hsl := fun W => slice_from W h2 0 c.out.length c2 k (many - c.acked) HK.out (by omega); clear ho1 ho2 hne hh1 hlt1 hc1 hat1 hh2 hlt2 hat2; obtain ⟨r0, r1, r2, r3, r4, r5, r6, r7, r8, r9, r10, r11, r12, r13, r14, fr⟩ := fif HB2.out.res))
  have hb1 := HB1.out.lt
  have hh := HH.out
  refine bodyPost_ret (v := .agg #[.int .i64 c.repl, .int .i64 c.clock, .slice (some ⟨h1, 0, none⟩) c.log.length c1, .int .i64 many, .slice (some ⟨h2, fromOff 0 c2 k, none⟩) (c.out.length - k) (c2 - k), .int .i64 c.got, .int .i64 0, .int .i64 0, .int .i64 0, .int .i64 0, .int .i64 0, .string ⟨#[]⟩, .string ⟨#[]⟩, .int .i64 0, .int .i64 0]) (by simp [results, Tryz.results124, go_sem, HB2.out.lt, r0, r1, r2, r3, r4, r5, r6, r7, r8, r9, r10, r11, r12, r13, r14]) rfl ⟨some ⟨h1, 0, none⟩, c1, some ⟨h2, fromOff 0 c2 k, none⟩, c2 - k, by simp [OutV.agg, OpV.zero, List.length_drop], ?_, ?_, ?_⟩
  · exact (OpsAt.set15 HAt1.out (fun a e => by cases e; show h1 ≠ _; omega) _ _ _ _ _ _ _ _ _ _ _ _ _ _ _).stays ((Below.refl _ _).alloc (Nat.le_refl _) _)
  · exact (OpsAt.set15 (HAt2.out.from k hc2) (fun a e => by cases e; show h2 ≠ _; omega) _ _ _ _ _ _ _ _ _ _ _ _ _ _ _).stays ((Below.refl _ _).alloc (Nat.le_refl _) _)
  · exact (below15 HB2.out.cli.2 (by omega) _ _ _ _ _ _ _ _ _ _ _ _ _ _ _).alloc (by simp; have := HB2.out.lt; omega) _
set_option maxRecDepth 100000 in
set_option maxHeartbeats 1000000 in
theorem sAck_any (c : CliV) (la oa : Option Addr) (lc oc : Nat) (many : Int) (w : World) (hz : CSz maxLen c) (hm : Num64 many) (hA : OpsAt w la c.log) (hC : OpsAt w oa c.out) :
    Calls Tryz.prog 124 #[c.agg la lc oa oc, .int .i64 many] w fun e w' => STold w w' e (ackRes c many) := by
  have hr := fun W (hW : Below w.heap.size w W) => sRight_any c la oa lc oc W hz (hA.stays hW) (hC.stays hW)
  have hil := sIll_any
  have hcp := fun W (hcr : cliRight c = true) (hW : Below w.heap.size w W) => sCopy_any c la oa lc oc W (cli_few hcr).1 (by have := (cli_few hcr).2; omega) (hA.stays hW) (hC.stays hW)
  have hB0 := FB.start w c la lc oa oc
  have HB0 := hide hB0
  have HR := hide hr
  have HIL := hide hil
  obtain ⟨p0, p1, p2, p3, p4, p5⟩ := hB0.cli.cells
  have hrange := fun h => (cliR_iff c).1 h
  have HZ := hide hz
  have HM := hide hm
  have HA := hide hA
  have HC := hide hC
  unfold CliV.agg at *
  clear hr hil hA hC hz hB0
  cases hcr : cliRight c
  · have HF : Hid (ackRes c many = OutV.ill 1) := ⟨by simp [ackRes, hcr]⟩
    simp only [hcr] at HR
    rw [HF.out]
    clear hcr hcp hrange
    go_enter Tryz.func124, Tryz.ntmps124
    go_wp2_with (first | (go_at_call 40; (refine (HR.out _ HB0.out.cli.2).mono ?_); rintro e w1 ⟨rfl, hb1⟩; have HB1 := hide (HB0.out.step hb1); clear p0 p1 p2 p3 p4 p5 hb1; obtain ⟨p0, p1, p2, p3, p4, p5⟩ := HB1.out.cli.cells) | (go_at_call 39; (refine (HIL.out _ _).mono ?_); rintro e w2 ⟨rfl, hb2⟩; have HB2 := hide (HB1.out.step hb2); clear p0 p1 p2 p3 p4 p5 hb2; obtain ⟨p0, p1, p2, p3, p4, p5⟩ := HB2.out.cli.cells; obtain ⟨r0, r1, r2, r3, r4, r5, r6, r7, r8, r9, r10, r11, r12, r13, r14, fr⟩ := fif HB2.out.res))
    refine bodyPost_ret (v := .agg #[.int .i64 0, .int .i64 0, .slice none 0 0, .int .i64 0, .slice none 0 0, .int .i64 0, .int .i64 0, .int .i64 0, .int .i64 0, .int .i64 0, .int .i64 0, .string ⟨#[]⟩, .string ⟨#[]⟩, .int .i64 0, .int .i64 1]) (by simp [results, Tryz.results124, go_sem, r0, r1, r2, r3, r4, r5, r6, r7, r8, r9, r10, r11, r12, r13, r14]) rfl (STold.ill (below15 HB2.out.cli.2 (by omega) _ _ _ _ _ _ _ _ _ _ _ _ _ _ _))
  · have HCP := hide (fun W hW => hcp W hcr hW)
    have hR := hrange hcr
    have hfew := hR.few
    have hlow := hR.low
    have hack : c.acked ≤ 150 := by have := hR.acked; have := own_len c.log c.repl; have := hR.log.2.1; omega
    have hwr : wrap64 (c.acked + (c.out.length : Int)) = c.acked + (c.out.length : Int) := by unfold wrap64; omega
    have HCR := hide hcr
    simp only [hcr] at HR
    clear hrange hcp hR
    by_cases hm1 : many < c.acked
    · have HF : Hid (ackRes c many = OutV.ill 8) := ⟨by simp [ackRes, HCR.out, hm1]⟩
      rw [HF.out]
      clear hcr
      go_enter Tryz.func124, Tryz.ntmps124
      go_wp2_with (first | (go_at_call 40; (refine (HR.out _ HB0.out.cli.2).mono ?_); rintro e w1 ⟨rfl, hb1⟩; have HB1 := hide (HB0.out.step hb1); clear p0 p1 p2 p3 p4 p5 hb1; obtain ⟨p0, p1, p2, p3, p4, p5⟩ := HB1.out.cli.cells) | (go_at_call 39; (refine (HIL.out _ _).mono ?_); rintro e w2 ⟨rfl, hb2⟩; have HB2 := hide (HB1.out.step hb2); clear p0 p1 p2 p3 p4 p5 hb2; obtain ⟨p0, p1, p2, p3, p4, p5⟩ := HB2.out.cli.cells; obtain ⟨r0, r1, r2, r3, r4, r5, r6, r7, r8, r9, r10, r11, r12, r13, r14, fr⟩ := fif HB2.out.res))
      refine bodyPost_ret (v := .agg #[.int .i64 0, .int .i64 0, .slice none 0 0, .int .i64 0, .slice none 0 0, .int .i64 0, .int .i64 0, .int .i64 0, .int .i64 0, .int .i64 0, .int .i64 0, .string ⟨#[]⟩, .string ⟨#[]⟩, .int .i64 0, .int .i64 8]) (by simp [results, Tryz.results124, go_sem, r0, r1, r2, r3, r4, r5, r6, r7, r8, r9, r10, r11, r12, r13, r14]) rfl (STold.ill (below15 HB2.out.cli.2 (by omega) _ _ _ _ _ _ _ _ _ _ _ _ _ _ _))
    · by_cases hm2 : c.acked + (c.out.length : Int) < many
      · have HF : Hid (ackRes c many = OutV.ill 8) := ⟨by simp [ackRes, HCR.out, hm2]⟩
        rw [HF.out]
        clear hcr
        go_enter Tryz.func124, Tryz.ntmps124
        go_wp2_with (first | (go_at_call 40; (refine (HR.out _ HB0.out.cli.2).mono ?_); rintro e w1 ⟨rfl, hb1⟩; have HB1 := hide (HB0.out.step hb1); clear p0 p1 p2 p3 p4 p5 hb1; obtain ⟨p0, p1, p2, p3, p4, p5⟩ := HB1.out.cli.cells) | (go_at_call 39; (refine (HIL.out _ _).mono ?_); rintro e w2 ⟨rfl, hb2⟩; have HB2 := hide (HB1.out.step hb2); clear p0 p1 p2 p3 p4 p5 hb2; obtain ⟨p0, p1, p2, p3, p4, p5⟩ := HB2.out.cli.cells; obtain ⟨r0, r1, r2, r3, r4, r5, r6, r7, r8, r9, r10, r11, r12, r13, r14, fr⟩ := fif HB2.out.res))
        refine bodyPost_ret (v := .agg #[.int .i64 0, .int .i64 0, .slice none 0 0, .int .i64 0, .slice none 0 0, .int .i64 0, .int .i64 0, .int .i64 0, .int .i64 0, .int .i64 0, .int .i64 0, .string ⟨#[]⟩, .string ⟨#[]⟩, .int .i64 0, .int .i64 8]) (by simp [results, Tryz.results124, go_sem, r0, r1, r2, r3, r4, r5, r6, r7, r8, r9, r10, r11, r12, r13, r14]) rfl (STold.ill (below15 HB2.out.cli.2 (by omega) _ _ _ _ _ _ _ _ _ _ _ _ _ _ _))
      · have h := sAck_ok c la oa lc oc many w HZ.out HM.out HA.out HC.out HCR.out hm1 hm2
        unfold CliV.agg at h
        exact h
end Go.Proofs.YtfkgmkcndchkjaaGreatDoor.OpR
namespace Go.Proofs.YtfkgmkcndchkjaaGreatDoor.OpR
open Go.ChangeShapes Go.WideShapes Go.ChangeAt Go.RowKit
set_option linter.unusedVariables false

/-- One op appended to a row of ops that the call owns, and where the new row lies. -/
theorem wpList_append_one {ops : Array Oper} {rest : List Oper} {o : Oper} {a : Act} {w : World} {Q : Exit → Act → World → Prop} (hgd : o.guard = none) (s x : Operand)
    (ho : o.op = .call { callee := .builtin .append, args := #[s, x], argTypes := #[26, 26] })
    (base : Nat) (v : Value) (out : List OpV) (hs : a.eval s = v) (hown : w.ownsRow base 30 7 v out.length (flat out))
    (ad : Addr) (y : OpV) (c : Nat) (hx : a.eval x = .slice (some ad) 1 c) (hA : OpsAt w (some ad) [y])
    (hlen : out.length ≤ 4000000) (hbase : base ≤ w.heap.size)
    (h : ∀ v' w', w'.ownsRow base 30 7 v' (out ++ [y]).length (flat (out ++ [y])) → w.grownBy w' v.ownBlock → (v'.ownBlock = v.ownBlock ∨ v'.ownBlock = some w.heap.size) → wpList Tryz.prog ops Q rest (a.put o.dst v') w') : wpList Tryz.prog ops Q (o :: rest) a w := by
  obtain ⟨i0, hi, hzz⟩ := Option.map_eq_some_iff.1 infoOp
  simp only [Prod.mk.injEq] at hzz
  obtain ⟨hz0, hz1, hz2⟩ := hzz
  have hm : maxLen = 9223372036854775807 := rfl
  refine wpList_append_own_at _ hgd s x 26 ho base 30 i0 _ 7 72 Tryz.underlying26 hi hz0 hz1 hz2 rfl (by decide) v out.length (flat out) hs hown ad 1 c (flat [y]) hx (flat_len [y]) hA.news (flat_one [y]) (by omega) (by omega) hbase (fun v' w' h1 h2 _ h4 => h v' w' ?_ h2 h4)
  rw [List.length_append, flat_app]; exact h1
set_option maxRecDepth 100000 in
set_option maxHeartbeats 400000 in
theorem sFull_any (c : CliV) (la oa : Option Addr) (lc oc : Nat) (w : World) (b : Bool) (hb : (decide (30 ≤ c.out.length) || decide (150 ≤ c.log.length)) = b) (hl : c.log.length ≤ 150) (ho : c.out.length ≤ 30) :
    Calls Tryz.prog 44 #[c.agg la lc oa oc] w fun e w' => e = .returned (.bool b) ∧ Below w.heap.size w w' := by
  have HB0 := hide (CliBox.new w 28 c la lc oa oc)
  obtain ⟨p0, p1, p2, p3, p4, p5⟩ := HB0.out.cells
  unfold CliV.agg
  by_cases h1 : 30 ≤ c.out.length
  · have d1 : decide (30 ≤ c.out.length) = true := by simpa using h1
    have d1' : decide ((30 : Int) ≤ (c.out.length : Int)) = true := by simpa using (show (30 : Int) ≤ (c.out.length : Int) by omega)
    rw [d1] at hb
    subst hb
    go_enter Tryz.func44, Tryz.ntmps44
    go_wp2
    go_ret
    exact ⟨rfl, HB0.out.2⟩
  · have d1 : decide (30 ≤ c.out.length) = false := by simpa using h1
    have d1' : decide ((30 : Int) ≤ (c.out.length : Int)) = false := by simpa using (show ¬ (30 : Int) ≤ (c.out.length : Int) by omega)
    rw [d1, Bool.false_or] at hb
    by_cases h2 : 150 ≤ c.log.length
    · have d2 : decide (150 ≤ c.log.length) = true := by simpa using h2
      have d2' : decide ((150 : Int) ≤ (c.log.length : Int)) = true := by simpa using (show (150 : Int) ≤ (c.log.length : Int) by omega)
      rw [d2] at hb
      subst hb
      go_enter Tryz.func44, Tryz.ntmps44
      go_wp2
      go_ret
      exact ⟨rfl, HB0.out.2⟩
    · have d2 : decide (150 ≤ c.log.length) = false := by simpa using h2
      have d2' : decide ((150 : Int) ≤ (c.log.length : Int)) = false := by simpa using (show ¬ (150 : Int) ≤ (c.log.length : Int) by omega)
      rw [d2] at hb
      subst hb
      go_enter Tryz.func44, Tryz.ntmps44
      go_wp2
      go_ret
      exact ⟨rfl, HB0.out.2⟩
/-- A client and an op that came, what will be told, and the copy in a variable. -/
structure PuS (w W : World) (c : CliV) (la : Option Addr) (lc : Nat) (oa : Option Addr) (oc : Nat) (o : OpV) (G : Nat) (t : Int) (v1 v2 : Value) : Prop where
  cli : CliBox w W w.heap.size 28 c la lc oa oc
  op : W.heap[w.heap.size + 1]? = some (.cells #[.int .i64 o.time, .int .i64 o.repl, .int .i64 o.kind, .int .i64 o.node, .int .i64 o.parent, .string o.name, .string o.value] 30 (0, 0))
  res : W.heap[w.heap.size + 2]? = some (.cells #[.int .i64 0, .int .i64 0, .slice none 0 0, .int .i64 0, .slice none 0 0, .int .i64 0, .int .i64 0, .int .i64 0, .int .i64 0, .int .i64 0, .int .i64 0, .string ⟨#[]⟩, .string ⟨#[]⟩, .int .i64 0, .int .i64 0] 32 (0, 0))
  box : Six W G 28 (.int .i64 c.repl) (.int .i64 t) v1 (.int .i64 c.acked) v2 (.int .i64 c.got)
  hG : w.heap.size + 3 ≤ G
/-- .. ahead of the copy. -/
structure PuB (w W : World) (c : CliV) (la : Option Addr) (lc : Nat) (oa : Option Addr) (oc : Nat) (o : OpV) : Prop where
  cli : CliBox w W w.heap.size 28 c la lc oa oc
  op : W.heap[w.heap.size + 1]? = some (.cells #[.int .i64 o.time, .int .i64 o.repl, .int .i64 o.kind, .int .i64 o.node, .int .i64 o.parent, .string o.name, .string o.value] 30 (0, 0))
  res : W.heap[w.heap.size + 2]? = some (.cells #[.int .i64 0, .int .i64 0, .slice none 0 0, .int .i64 0, .slice none 0 0, .int .i64 0, .int .i64 0, .int .i64 0, .int .i64 0, .int .i64 0, .int .i64 0, .string ⟨#[]⟩, .string ⟨#[]⟩, .int .i64 0, .int .i64 0] 32 (0, 0))
section
variable {w W W' : World} {c : CliV} {la : Option Addr} {lc : Nat} {oa : Option Addr} {oc : Nat} {o : OpV} {G : Nat} {t : Int} {v1 v2 : Value}
theorem op7_ {g : Nat} (h : W.heap[g]? = some (.cells #[.int .i64 o.time, .int .i64 o.repl, .int .i64 o.kind, .int .i64 o.node, .int .i64 o.parent, .string o.name, .string o.value] 30 (0, 0))) : W.cell? ⟨g, 0, none⟩ = some (.int .i64 o.time) ∧ W.cell? ⟨g, 1, none⟩ = some (.int .i64 o.repl) ∧ W.cell? ⟨g, 2, none⟩ = some (.int .i64 o.kind) ∧ W.cell? ⟨g, 3, none⟩ = some (.int .i64 o.node) ∧ W.cell? ⟨g, 4, none⟩ = some (.int .i64 o.parent) ∧ W.cell? ⟨g, 5, none⟩ = some (.string o.name) ∧ W.cell? ⟨g, 6, none⟩ = some (.string o.value) := by
  refine ⟨?_, ?_, ?_, ?_, ?_, ?_, ?_⟩ <;> simp [World.cell?, h]
theorem PuB.lt (h : PuB w W c la lc oa oc o) : w.heap.size + 2 < W.heap.size := (Array.getElem?_eq_some_iff.1 h.res).1
theorem PuB.start (w : World) (c : CliV) (la : Option Addr) (lc : Nat) (oa : Option Addr) (oc : Nat) (o : OpV) : PuB w (((w.alloc (.cells #[.int .i64 c.repl, .int .i64 c.clock, .slice la c.log.length lc, .int .i64 c.acked, .slice oa c.out.length oc, .int .i64 c.got] 28)).alloc (.cells #[.int .i64 o.time, .int .i64 o.repl, .int .i64 o.kind, .int .i64 o.node, .int .i64 o.parent, .string o.name, .string o.value] 30)).alloc (.cells #[.int .i64 0, .int .i64 0, .slice none 0 0, .int .i64 0, .slice none 0 0, .int .i64 0, .int .i64 0, .int .i64 0, .int .i64 0, .int .i64 0, .int .i64 0, .string ⟨#[]⟩, .string ⟨#[]⟩, .int .i64 0, .int .i64 0] 32)) c la lc oa oc o := by
  have h1 := heap_alloc_new (w.alloc (.cells #[.int .i64 c.repl, .int .i64 c.clock, .slice la c.log.length lc, .int .i64 c.acked, .slice oa c.out.length oc, .int .i64 c.got] 28)) (.cells #[.int .i64 o.time, .int .i64 o.repl, .int .i64 o.kind, .int .i64 o.node, .int .i64 o.parent, .string o.name, .string o.value] 30)
  rw [show (w.alloc (.cells #[.int .i64 c.repl, .int .i64 c.clock, .slice la c.log.length lc, .int .i64 c.acked, .slice oa c.out.length oc, .int .i64 c.got] 28)).heap.size = w.heap.size + 1 by simp] at h1
  have h2 := heap_alloc_new ((w.alloc (.cells #[.int .i64 c.repl, .int .i64 c.clock, .slice la c.log.length lc, .int .i64 c.acked, .slice oa c.out.length oc, .int .i64 c.got] 28)).alloc (.cells #[.int .i64 o.time, .int .i64 o.repl, .int .i64 o.kind, .int .i64 o.node, .int .i64 o.parent, .string o.name, .string o.value] 30)) (.cells #[.int .i64 0, .int .i64 0, .slice none 0 0, .int .i64 0, .slice none 0 0, .int .i64 0, .int .i64 0, .int .i64 0, .int .i64 0, .int .i64 0, .int .i64 0, .string ⟨#[]⟩, .string ⟨#[]⟩, .int .i64 0, .int .i64 0] 32)
  rw [show ((w.alloc (.cells #[.int .i64 c.repl, .int .i64 c.clock, .slice la c.log.length lc, .int .i64 c.acked, .slice oa c.out.length oc, .int .i64 c.got] 28)).alloc (.cells #[.int .i64 o.time, .int .i64 o.repl, .int .i64 o.kind, .int .i64 o.node, .int .i64 o.parent, .string o.name, .string o.value] 30)).heap.size = w.heap.size + 2 by simp] at h2
  exact ⟨((CliBox.new w _ c la lc oa oc).step ((Below.refl _ _).alloc (Nat.le_refl _) _)).step ((Below.refl _ _).alloc (Nat.le_refl _) _), (((Below.refl _ _).alloc (Nat.le_refl _) _).block _ (by simp)).trans h1, h2⟩
theorem PuB.step (h : PuB w W c la lc oa oc o) (hb : Below W.heap.size W W') : PuB w W' c la lc oa oc o := by
  have hl := h.lt
  exact ⟨h.cli.step hb, (hb.block _ (by omega)).trans h.op, (hb.block _ hl).trans h.res⟩
theorem PuS.new (h : PuB w W c la lc oa oc o) (t : Int) (v1 v2 : Value) : PuS w (W.alloc (.cells #[.int .i64 c.repl, .int .i64 t, v1, .int .i64 c.acked, v2, .int .i64 c.got] 28)) c la lc oa oc o W.heap.size t v1 v2 := by
  have h1 := h.step ((Below.refl W.heap.size W).alloc (Nat.le_refl _) (.cells #[.int .i64 c.repl, .int .i64 t, v1, .int .i64 c.acked, v2, .int .i64 c.got] 28))
  exact ⟨h1.cli, h1.op, h1.res, heap_alloc_new W _, h.lt⟩
theorem PuS.low (h : PuS w W c la lc oa oc o G t v1 v2) : PuB w W c la lc oa oc o := ⟨h.cli, h.op, h.res⟩
theorem PuS.lt (h : PuS w W c la lc oa oc o G t v1 v2) : G < W.heap.size := h.box.lt
theorem PuS.step (h : PuS w W c la lc oa oc o G t v1 v2) (hb : Below W.heap.size W W') : PuS w W' c la lc oa oc o G t v1 v2 := by
  have h1 := h.low.step hb
  exact ⟨h1.cli, h1.op, h1.res, h.box.step hb, h.hG⟩
theorem PuB.gr (h : PuB w W c la lc oa oc o) {g : Nat} (hg : W.grownBy W' (some g)) (hge : w.heap.size + 3 ≤ g) : PuB w W' c la lc oa oc o := by
  have hl := h.lt
  exact ⟨⟨(hg.block _ (by omega) (fun e => by cases e; omega)).trans h.cli.1, h.cli.2.grown hg h.cli.2.size (fun k e => by cases e; omega)⟩, (hg.block _ (by omega) (fun e => by cases e; omega)).trans h.op, (hg.block _ hl (fun e => by cases e; omega)).trans h.res⟩
theorem PuS.gr (h : PuS w W c la lc oa oc o G t v1 v2) {g : Nat} (hg : W.grownBy W' (some g)) (hge : w.heap.size + 3 ≤ g) (hne : g ≠ G) : PuS w W' c la lc oa oc o G t v1 v2 := by
  have h1 := h.low.gr hg hge
  exact ⟨h1.cli, h1.op, h1.res, (hg.block _ h.lt (fun e => by cases e; exact hne rfl)).trans h.box, h.hG⟩
theorem PuB.set (h : PuB w W c la lc oa oc o) {g i : Nat} {v : Value} (hg : w.heap.size + 3 ≤ g) : PuB w (W.setCell ⟨g, i, none⟩ v) c la lc oa oc o :=
  ⟨h.cli.set (by omega) (by omega), (Below.heap_setCell _ _ _ _ (by show w.heap.size + 1 ≠ g; omega)).trans h.op, (Below.heap_setCell _ _ _ _ (by show w.heap.size + 2 ≠ g; omega)).trans h.res⟩
theorem PuS.set2 (h : PuS w W c la lc oa oc o G t v1 v2) (v : Value) : PuS w (W.setCell ⟨G, 2, none⟩ v) c la lc oa oc o G t v v2 := by
  have h1 := h.low.set (i := 2) (v := v) h.hG
  exact ⟨h1.cli, h1.op, h1.res, h.box.set2 v, h.hG⟩
theorem PuS.set4 (h : PuS w W c la lc oa oc o G t v1 v2) (v : Value) : PuS w (W.setCell ⟨G, 4, none⟩ v) c la lc oa oc o G t v1 v := by
  have h1 := h.low.set (i := 4) (v := v) h.hG
  exact ⟨h1.cli, h1.op, h1.res, h.box.set4 v, h.hG⟩
theorem PuS.bf (h : PuS w W c la lc oa oc o G t v1 v2) : ∀ i, W.frozen? ⟨G, i, none⟩ = false := fun i => by simp [World.frozen?, show W.heap[G]? = _ from h.box]
end
theorem al_le (x : World) (o : Obj) : x.heap.size ≤ (x.alloc o).heap.size := by rw [World.size_alloc]; exact Nat.le_succ _
theorem ops_at_set {W : World} {P i : Nat} {v : Value} {a : Option Addr} {l : List OpV} (h : OpsAt W a l) (hne : ∀ x, a = some x → x.block ≠ P) : OpsAt (W.setCell ⟨P, i, none⟩ v) a l := fun j hj => by
  obtain ⟨b, off, e, hlt, ho⟩ := h j hj
  exact ⟨b, off, e, by simpa using hlt, ho.block (Below.heap_setCell _ _ _ _ (hne _ e))⟩
theorem ops_grown9 {w w' : World} {g : Nat} {ao : Option Addr} {l : List OpV} (h : OpsAt w ao l) (hg : w.grownBy w' (some g)) (hr : ∀ a, ao = some a → a.block ≠ g) : OpsAt w' ao l := fun j hj => by
  obtain ⟨b, off, e, hlt, ho⟩ := h j hj
  exact ⟨b, off, e, Nat.lt_of_lt_of_le hlt hg.size, ho.block (hg.block b hlt (fun e2 => by cases e2; exact hr _ e rfl))⟩
/-- Where a row lies that was appended to. -/
theorem row_at {W W' : World} {base n c G h1 h2 lo : Nat} {T : TypeId} {a : Option Addr} {xs : List Value} {x : Addr} {n0 c0 : Nat} (e : a = some x) (ho : W'.ownsRow base T 7 (.slice a n c) n xs) (hw : (Value.slice a n c).ownBlock = (Value.slice (some ⟨h1, 0, none⟩) n0 c0).ownBlock ∨ (Value.slice a n c).ownBlock = some W.heap.size) (hlo : lo ≤ h1) (h1G : h1 < G) (h2G : h2 < G) (hn : h1 ≠ h2) (hGW : lo ≤ W.heap.size ∧ G < W.heap.size) : lo ≤ x.block ∧ x.block ≠ G ∧ x.block ≠ h2 := by
  subst e
  rcases hw with hw | hw
  · have e2 : x.block = h1 := by simpa [Value.ownBlock] using hw
    omega
  · have e2 : x.block = W.heap.size := by simpa [Value.ownBlock] using hw
    omega
theorem row_at2 {W W' : World} {base n c G h1 lo : Nat} {T : TypeId} {a : Option Addr} {xs : List Value} {x : Addr} {n0 c0 : Nat} (e : a = some x) (ho : W'.ownsRow base T 7 (.slice a n c) n xs) (hw : (Value.slice a n c).ownBlock = (Value.slice (some ⟨h1, 0, none⟩) n0 c0).ownBlock ∨ (Value.slice a n c).ownBlock = some W.heap.size) (hlo : lo ≤ h1) (h1G : h1 < G) (hGW : lo ≤ W.heap.size ∧ G < W.heap.size) : lo ≤ x.block ∧ x.block ≠ G := by
  subst e
  rcases hw with hw | hw
  · have e2 : x.block = h1 := by simpa [Value.ownBlock] using hw
    omega
  · have e2 : x.block = W.heap.size := by simpa [Value.ownBlock] using hw
    omega
set_option maxRecDepth 100000 in
set_option maxHeartbeats 2000000 in
theorem sPut_at (c : CliV) (la oa : Option Addr) (lc oc : Nat) (o : OpV) (w : World) (hl : c.log.length < 150) (hlo : c.out.length < 30) (hA : OpsAt w la c.log) (hC : OpsAt w oa c.out) :
    Calls Tryz.prog 45 #[c.agg la lc oa oc, o.agg] w fun e w' => ∃ la lc oa oc, e = .returned ((OutV.mk (putC c o) o 0 0).agg la lc oa oc) ∧ OpsAt w' la (c.log ++ [o]) ∧ OpsAt w' oa (c.out ++ [o]) ∧ (∀ x, la = some x → w.heap.size ≤ x.block) ∧ (∀ x, oa = some x → w.heap.size ≤ x.block) ∧ Below w.heap.size w w' := by
  have hcp := fun W (hW : Below w.heap.size w W) => sCopy_any c la oa lc oc W (by omega) (by omega) (hA.stays hW) (hC.stays hW)
  have HCP := hide hcp
  have HB0 := hide (PuB.start w c la lc oa oc o)
  obtain ⟨p0, p1, p2, p3, p4, p5⟩ := HB0.out.cli.cells
  obtain ⟨q0, q1, q2, q3, q4, q5, q6⟩ := op7_ HB0.out.op
  have HL := hide (And.intro hl hlo)
  obtain ⟨zl, hzl⟩ : ∃ z, z = c.log ++ [o] := ⟨_, rfl⟩
  obtain ⟨zo, hzo⟩ : ∃ z, z = c.out ++ [o] := ⟨_, rfl⟩
  have HZ1 := hide hzl
  have HZ2 := hide hzo
  have HN1 := hide (fun (W : World) (ob : Obj) => (show OpsAt ((W.alloc ob).alloc (.cells #[.int .i64 o.time, .int .i64 o.repl, .int .i64 o.kind, .int .i64 o.node, .int .i64 o.parent, .string o.name, .string o.value] 30)) (some ⟨W.heap.size + 1, 0, none⟩) [o] by
    have h := one_ops (W.alloc ob) o 30
    rwa [show (W.alloc ob).heap.size = W.heap.size + 1 by simp] at h))
  have HN2 := hide (fun (W : World) (g : Nat) (hg : W.heap.size = g) => (show OpsAt (W.alloc (.cells #[.int .i64 o.time, .int .i64 o.repl, .int .i64 o.kind, .int .i64 o.node, .int .i64 o.parent, .string o.name, .string o.value] 30)) (some ⟨g, 0, none⟩) [o] by
    have h := one_ops W o 30
    rwa [hg] at h))
  unfold CliV.agg OpV.agg at *
  clear hcp hA hC hl hlo hzl hzo
  go_enter Tryz.func45, Tryz.ntmps45
  go_wp2_with (first | (go_at_call 74; (refine (HCP.out _ HB0.out.cli.2).mono ?_); rintro e w1 ⟨v1, v2, rfl, ho1, ho2, hne, hb1⟩; obtain ⟨h1, c1, rfl, hh1, hlt1, _, _, _⟩ := ho1.at; obtain ⟨h2, c2, rfl, hh2, hlt2, _, _, _⟩ := ho2.at; have hB1 := HB0.out.step hb1; have hne9 : h1 ≠ h2 := (fun e => hne (by rw [e]; rfl)); have HO1 := hide ho1.1; have HO2 := hide ho2.1; have HLT := hide (And.intro (And.intro (Nat.le_trans HB0.out.lt hh1) hlt1) (And.intro (Nat.le_trans HB0.out.lt hh2) hlt2)); have HNE := hide hne9; have HS := hide (PuS.new hB1 o.time (.slice (some ⟨h1, 0, none⟩) c.log.length c1) (.slice (some ⟨h2, 0, none⟩) c.out.length c2)); have pa := (fun ob => op7_ ((hB1.step ((Below.refl _ w1).alloc (Nat.le_refl _) ob)).op)); have HSZ := hide (Nat.le_trans HB0.out.lt hb1.size); have HBL := hide hb1.size; clear p0 p1 p2 p3 p4 p5 hb1 ho1 ho2 hne hne9 hB1 hh1 hh2 hlt1 hlt2; obtain ⟨b0, b1, b2, b3, b4, b5, _⟩ := HS.out.box.cells; have bf := HS.out.bf; obtain ⟨q0, q1, q2, q3, q4, q5, q6⟩ := op7_ HS.out.op) | (at_builtin; (refine wpList_append_one rfl _ _ rfl _ _ c.log rfl ((HO1.out.alloc _).alloc _) ⟨w1.heap.size + 1, 0, none⟩ o 1 rfl (HN1.out _ _) (by have := HL.out.1; omega) (Nat.le_trans HBL.out (Nat.le_trans (al_le _ _) (al_le _ _))) ?_); intro v3 w3 ho3 hg3 hw3; rw [← HZ1.out] at ho3; have hgg3 : World.grownBy _ w3 (some h1) := hg3; obtain ⟨a3, c3, rfl, _, hat3⟩ := owns_at ho3; have hl9 := HLT.out; have hz9 := HSZ.out; have hn9 := HNE.out; have hS3 := (HS.out.step ((Below.refl _ _).alloc (Nat.le_refl _) (.cells #[.int .i64 o.time, .int .i64 o.repl, .int .i64 o.kind, .int .i64 o.node, .int .i64 o.parent, .string o.name, .string o.value] 30))).gr hgg3 (by omega) (by omega); have hk3 : ∀ x, a3 = some x → w.heap.size + 3 ≤ x.block ∧ x.block ≠ w1.heap.size ∧ x.block ≠ h2 := (fun x e => row_at e ho3 hw3 (by omega) (by omega) (by omega) hn9 (by simp; omega)); have hO23 := ((HO2.out.alloc (.cells #[.int .i64 c.repl, .int .i64 o.time, .slice (some ⟨h1, 0, none⟩) c.log.length c1, .int .i64 c.acked, .slice (some ⟨h2, 0, none⟩) c.out.length c2, .int .i64 c.got] 28)).alloc (.cells #[.int .i64 o.time, .int .i64 o.repl, .int .i64 o.kind, .int .i64 o.node, .int .i64 o.parent, .string o.name, .string o.value] 30)).kept hgg3 (.inr (fun e => hn9 (by simpa [Value.ownBlock] using e.symm))); have HS3 := hide (hS3.set2 (.slice a3 zl.length c3)); have HA3 := hide (ops_at_set (i := 2) (v := .slice a3 zl.length c3) hat3 (fun x e => (hk3 x e).2.1)); have HK3 := hide hk3; have hO23s : (w3.setCell ⟨w1.heap.size, 2, none⟩ (.slice a3 zl.length c3)).ownsRow _ 30 7 (.slice (some ⟨h2, 0, none⟩) c.out.length c2) c.out.length (flat c.out) := ownsRow_setCell_other hO23 (fun e => (by have h9 : h2 = w1.heap.size := Option.some.inj e; omega)) _; have HO23 := hide hO23s; have HSZ3 := hide (Nat.le_trans (Nat.le_trans (al_le _ _) (al_le _ _)) hg3.size); clear b0 b1 b2 b3 b4 b5 bf q0 q1 q2 q3 q4 q5 q6 pa ho3 hg3 hgg3 hw3 hat3 hl9 hz9 hn9 hk3 hO23 hO23s; obtain ⟨b0, b1, b2, b3, b4, b5, _⟩ := hS3.box.cells; have bf := hS3.bf; obtain ⟨q0, q1, q2, q3, q4, q5, q6⟩ := op7_ hS3.op; obtain ⟨s0, s1, s2, s3, s4, s5, _⟩ := HS3.out.box.cells; obtain ⟨t0, t1, t2, t3, t4, t5, t6⟩ := op7_ HS3.out.op; clear hS3) | (at_builtin; (refine wpList_append_one rfl _ _ rfl _ _ c.out rfl (HO23.out.alloc _) ⟨w3.heap.size, 0, none⟩ o 1 rfl (HN2.out _ _ (by simp)) (by have := HL.out.2; omega) (Nat.le_trans HBL.out (Nat.le_trans HSZ3.out (by simp))) ?_); intro v4 w4 ho4 hg4 hw4; rw [← HZ2.out] at ho4; have hgg4 : World.grownBy _ w4 (some h2) := hg4; obtain ⟨a4, c4, rfl, _, hat4⟩ := owns_at ho4; have hl9 := HLT.out; have hz9 := HSZ.out; have hz39 := HSZ3.out; have hS4 := (HS3.out.step ((Below.refl _ _).alloc (Nat.le_refl _) (.cells #[.int .i64 o.time, .int .i64 o.repl, .int .i64 o.kind, .int .i64 o.node, .int .i64 o.parent, .string o.name, .string o.value] 30))).gr hgg4 (by omega) (by omega); have hk4 : ∀ x, a4 = some x → w.heap.size + 3 ≤ x.block ∧ x.block ≠ w1.heap.size := (fun x e => row_at2 e ho4 hw4 (by omega) (by omega) (by simp; omega)); have hat34 := ops_grown9 (HA3.out.stays ((Below.refl _ (w3.setCell ⟨w1.heap.size, 2, none⟩ (.slice a3 zl.length c3))).alloc (Nat.le_refl _) (.cells #[.int .i64 o.time, .int .i64 o.repl, .int .i64 o.kind, .int .i64 o.node, .int .i64 o.parent, .string o.name, .string o.value] 30))) hgg4 (fun x e => (HK3.out x e).2.2); have HS4 := hide (hS4.set4 (.slice a4 zo.length c4)); have HA4 := hide (ops_at_set (i := 4) (v := .slice a4 zo.length c4) hat4 (fun x e => (hk4 x e).2)); have HA34 := hide (ops_at_set (i := 4) (v := .slice a4 zo.length c4) hat34 (fun x e => (HK3.out x e).2.1)); have HK4 := hide hk4; clear b0 b1 b2 b3 b4 b5 bf q0 q1 q2 q3 q4 q5 q6 s0 s1 s2 s3 s4 s5 t0 t1 t2 t3 t4 t5 t6 ho4 hg4 hgg4 hw4 hat4 hl9 hz9 hz39 hk4 hat34; obtain ⟨b0, b1, b2, b3, b4, b5, _⟩ := hS4.box.cells; have bf := hS4.bf; obtain ⟨q0, q1, q2, q3, q4, q5, q6⟩ := op7_ hS4.op; obtain ⟨s0, s1, s2, s3, s4, s5, _⟩ := HS4.out.box.cells; obtain ⟨t0, t1, t2, t3, t4, t5, t6⟩ := op7_ HS4.out.op; obtain ⟨r0, r1, r2, r3, r4, r5, r6, r7, r8, r9, r10, r11, r12, r13, r14, fr⟩ := fif HS4.out.res; clear hS4) | fail)
  have hz9 := HSZ.out
  refine bodyPost_ret (v := .agg #[.int .i64 c.repl, .int .i64 o.time, .slice a3 zl.length c3, .int .i64 c.acked, .slice a4 zo.length c4, .int .i64 c.got, .int .i64 o.time, .int .i64 o.repl, .int .i64 o.kind, .int .i64 o.node, .int .i64 o.parent, .string o.name, .string o.value, .int .i64 0, .int .i64 0]) (by simp [results, Tryz.results45, go_sem, r0, r1, r2, r3, r4, r5, r6, r7, r8, r9, r10, r11, r12, r13, r14]) rfl ?_
  have e1 := HZ1.out
  have e2 := HZ2.out
  subst e1
  subst e2
  exact ⟨a3, c3, a4, c4, rfl, OpsAt.set15 HA34.out (fun x e => by have := (HK3.out x e).1; omega) _ _ _ _ _ _ _ _ _ _ _ _ _ _ _, OpsAt.set15 HA4.out (fun x e => by have := (HK4.out x e).1; omega) _ _ _ _ _ _ _ _ _ _ _ _ _ _ _, fun x e => by have := (HK3.out x e).1; omega, fun x e => by have := (HK4.out x e).1; omega, below15 HS4.out.cli.2 (by omega) _ _ _ _ _ _ _ _ _ _ _ _ _ _ _⟩
end Go.Proofs.YtfkgmkcndchkjaaGreatDoor.OpR
