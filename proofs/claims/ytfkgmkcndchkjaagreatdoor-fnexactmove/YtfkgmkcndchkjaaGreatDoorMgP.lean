/- Proves what spec.l03Copy makes. Proves what spec.l03Move does to a tree. A field of a node stored in a row that the call owns; a node put in the place of one of its number. Proves what spec.l03Move does to a tree where the node is there. Proves what spec.l03Move does to a tree where the node is not there. Proves what spec.l03Move does to a right tree. Proves what spec.l03Set does to a right tree. An append of props in a drawn region: whatever slice they lie in, nil and empty too. Proves what spec.l03Set does to a tree where the node is there. Proves what spec.l03Do does to a right tree, and what spec.TreeDo answers. Proves what spec.TreeOf answers. Proves what spec.Move and spec.Set answer, case by case. Proves what spec.Move answers, case by case. Proves what spec.Move answers, case by case. Proves what spec.Set answers, case by case. Proves what spec.Set answers, case by case. Proves what spec.Move and spec.Set answer. Proves what impl.Move and impl.Set answer. Proves what the harness does with what a hand tells: compared, marked, looked at. What a client's law keeps of its variables, over calls and marks. What a row that lists the seven errors of impl gives a walk: made by mksnz.py. -/
import Derived.Test.YtfkgmkcndchkjaaGreatDoorMgD
import Derived.Test.YtfkgmkcndchkjaaGreatDoorMgB
import Derived.Maps.AppendAt
import Derived.Deep.AppendLies
import Derived.Test.YtfkgmkcndchkjaaGreatDoorMgG
import Derived.Test.YtfkgmkcndchkjaaGreatDoorMgF
import Derived.Test.YtfkgmkcndchkjaaGreatDoorMgH
import Derived.Test.YtfkgmkcndchkjaaGreatDoorCliF
import Derived.Test.YtfkgmkcndchkjaaGreatDoorCliT
import Derived.Test.YtfkgmkcndchkjaaGreatDoorOpH
import Derived.Test.YtfkgmkcndchkjaaGreatDoorIsE
import Derived.Test.YtfkgmkcndchkjaaGreatDoorRows
import Derived.Stop.LaidErr
import Derived.LaidLaws
namespace Go.Proofs.YtfkgmkcndchkjaaGreatDoor.OpR
open Go.ChangeShapes Go.WideShapes Go.ChangeAt Go.RowKit
set_option linter.unusedVariables false

/-- Three variables of a tree's kind: the tree, the answer, the copy. -/
structure CpV (w c : World) (sv rv ov : Value) : Prop where
  below : Below w.heap.size w c
  tv : c.heap[w.heap.size]? = some (.cells #[sv] 72 (0, 0))
  rv : c.heap[w.heap.size + 1]? = some (.cells #[rv] 72 (0, 0))
  ov : c.heap[w.heap.size + 1 + 1]? = some (.cells #[ov] 72 (0, 0))
theorem CpV.lt {w c : World} {sv rv ov : Value} (h : CpV w c sv rv ov) : w.heap.size + 1 + 1 < c.heap.size := (Array.getElem?_eq_some_iff.1 h.ov).1
theorem CpV.step {w c c' : World} {sv rv ov : Value} (h : CpV w c sv rv ov) (hb : Below c.heap.size c c') : CpV w c' sv rv ov :=
  have hl := h.lt
  ⟨h.below.trans (hb.mono h.below.size), (hb.block _ (by omega)).trans h.tv, (hb.block _ (by omega)).trans h.rv, (hb.block _ (by omega)).trans h.ov⟩
theorem CpV.grown {w c c' : World} {sv rv ov : Value} {row : Option Nat} (h : CpV w c sv rv ov) (hg : c.grownBy c' row) (hr : ∀ k, row = some k → w.heap.size + 1 + 1 < k) : CpV w c' sv rv ov := by
  have hl := h.lt
  have hs := h.below.size
  have hne : ∀ k, k ≤ w.heap.size + 1 + 1 → some k ≠ row := fun k hk e => by have := hr k e.symm; omega
  exact ⟨⟨hg.os.trans h.below.os, hg.tape.trans h.below.tape, hg.output.trans h.below.output, Nat.le_trans hs hg.size, fun k hk => (hg.block k (by omega) (hne k (by omega))).trans (h.below.block k hk)⟩, (hg.block _ (by omega) (hne _ (by omega))).trans h.tv, (hg.block _ (by omega) (hne _ (by omega))).trans h.rv, (hg.block _ (by omega) (hne _ (by omega))).trans h.ov⟩
theorem CpV.set {w c : World} {sv rv ov : Value} (h : CpV w c sv rv ov) (x : Value) : CpV w (c.setCell ⟨w.heap.size + 1 + 1, 0, none⟩ x) sv rv x :=
  ⟨h.below.setCell (p := ⟨w.heap.size + 1 + 1, 0, none⟩) (show w.heap.size ≤ w.heap.size + 1 + 1 by omega) _, (Below.heap_setCell _ _ _ _ (show w.heap.size ≠ w.heap.size + 1 + 1 by omega)).trans h.tv, (Below.heap_setCell _ _ _ _ (show w.heap.size + 1 ≠ w.heap.size + 1 + 1 by omega)).trans h.rv, set_block h.ov 0 x⟩
theorem CpV.start (w : World) (sv rv ov : Value) : CpV w (((w.alloc (.cells #[sv] 72)).alloc (.cells #[rv] 72)).alloc (.cells #[ov] 72)) sv rv ov :=
  ⟨(((Below.refl _ _).alloc (Nat.le_refl _) _).alloc (by simp) _).alloc (by simp; omega) _, by
    rw [Below.heap_alloc _ _ _ (by simp; omega), Below.heap_alloc _ _ _ (by simp)]; exact heap_alloc_new w _, mid3 _ _ _ _, last3 _ _ _ _⟩
theorem Box4.grown {w c c' : World} {g : Nat} {n : NodG} {row : Option Nat} (h : Box4 w c g n) (hs : w.heap.size ≤ g) (hg : c.grownBy c' row) (hr : ∀ k, row = some k → g < k) : Box4 w c' g n := by
  have hl := (Array.getElem?_eq_some_iff.1 h.lies).1
  have hne : ∀ k, k ≤ g → some k ≠ row := fun k hk e => by have := hr k e.symm; omega
  exact ⟨⟨hg.os.trans h.below.os, hg.tape.trans h.below.tape, hg.output.trans h.below.output, Nat.le_trans h.below.size hg.size, fun k hk => (hg.block k (by have := h.below.size; omega) (hne k (by omega))).trans (h.below.block k hk)⟩, (hg.block _ hl (hne _ (Nat.le_refl _))).trans h.lies⟩
theorem empty_props (X : World) : (X.alloc (.cells #[] 165)).ownsRow X.heap.size 165 2 (.slice (some ⟨X.heap.size, 0, none⟩) 0 0) 0 [] :=
  World.ownsRow_made X #[] 0 (Nat.le_refl _) (by decide) rfl

end Go.Proofs.YtfkgmkcndchkjaaGreatDoor.OpR
namespace Go.Proofs.YtfkgmkcndchkjaaGreatDoor.OpR
open Go.ChangeShapes Go.WideShapes Go.ChangeAt Go.RowKit
set_option linter.unusedVariables false

/-- A tree of spec's: its nodes in a row that the call owns, the props anywhere above. -/
structure TreeS (w : World) (base : Nat) (v : Value) (l : List NodG) : Prop where
  row : w.ownsRow base 120 4 v l.length (flatG NodG.cells l)
  at_ : ∀ n ∈ l, PropsAt w n.pao n.props
  off : ∀ n ∈ l, n.props ≠ [] → ∀ x, n.pao = some x → base ≤ x.block ∧ v.ownBlock ≠ some x.block
  room : ∀ n ∈ l, n.props.length ≤ n.pcap
theorem TreeOwn.toS {w : World} {base : Nat} {v : Value} {l : List NodG} (h : TreeOwn w base v l) : TreeS w base v l :=
  ⟨h.row, fun n hn => props_own (h.props n hn), fun n hn _ x hx => ⟨(h.blk hn hx).1, h.off n hn x hx⟩, fun n hn => by
    rcases (h.props n hn).2 with ⟨e, hn0⟩ | ⟨g, cap', cur, e, hb, hg, h1, _⟩
    · omega
    · simp only [Value.slice.injEq] at e
      obtain ⟨_, _, rfl⟩ := e
      exact h1⟩
theorem TreeS.stays {w w' : World} {base : Nat} {v : Value} {l : List NodG} (h : TreeS w base v l) (hb : Below w.heap.size w w') : TreeS w' base v l :=
  ⟨owns_stays2 h.row hb, fun n hn => (h.at_ n hn).stays hb, h.off, h.room⟩
theorem TreeS.nodesAt {w : World} {base : Nat} {ao : Option Addr} {cap : Nat} {l : List NodG} (h : TreeS w base (.slice ao l.length cap) l) : NodesAt w ao l := by
  obtain ⟨a, c, e, _, hc⟩ := owns_atN h.row
  simp only [Value.slice.injEq] at e
  obtain ⟨rfl, _, _⟩ := e
  exact hc.nodes h.at_
/-- What a deed done to a tree leaves as it was. -/
structure Chg (w w' : World) (base T : Nat) : Prop where
  os : w'.os = w.os
  tape : w'.tape = w.tape
  output : w'.output = w.output
  size : w.heap.size ≤ w'.heap.size
  block : ∀ k, k < w.heap.size → k < base → k ≠ T → w'.heap[k]? = w.heap[k]?

/-- The variable of an op, behind calls. -/
structure OpB (w c : World) (o : OpV) : Prop where
  below : Below w.heap.size w c
  op : c.heap[w.heap.size]? = some (.cells #[.int .i64 o.time, .int .i64 o.repl, .int .i64 o.kind, .int .i64 o.node, .int .i64 o.parent, .string o.name, .string o.value] 30 (0, 0))
theorem OpB.start (w : World) (o : OpV) : OpB w (w.alloc (.cells #[.int .i64 o.time, .int .i64 o.repl, .int .i64 o.kind, .int .i64 o.node, .int .i64 o.parent, .string o.name, .string o.value] 30)) o := ⟨(Below.refl _ _).alloc (Nat.le_refl _) _, heap_alloc_new w _⟩
theorem OpB.lt {w c : World} {o : OpV} (h : OpB w c o) : w.heap.size < c.heap.size := (Array.getElem?_eq_some_iff.1 h.op).1
theorem OpB.step {w c c' : World} {o : OpV} (h : OpB w c o) (hb : Below c.heap.size c c') : OpB w c' o := ⟨h.below.trans (hb.mono h.below.size), (hb.block _ h.lt).trans h.op⟩
theorem OpB.drew {w c : World} {o : OpV} (h : OpB w c o) : OpB w c.drew o := ⟨h.below.drew, h.op⟩
theorem Chg.of {w w' : World} {base T : Nat} (h : Below w.heap.size w w') : Chg w w' base T := ⟨h.os, h.tape, h.output, h.size, fun k hk _ _ => h.block k hk⟩

set_option maxRecDepth 100000 in
set_option maxHeartbeats 1000000 in
theorem sMove_no (l : List NodG) (ao : Option Addr) (cap : Nat) (o : OpV) (base T : Nat) (w : World) (ht : TreeR l) (hT : w.heap[T]? = some (.cells #[.slice ao l.length cap] 72 (0, 0))) (hS : TreeS w base (.slice ao l.length cap) l) (hm : mayMove l o = false) :
    Calls Tryz.prog 99 #[.pointer (some ⟨T, 0, none⟩), o.agg] w fun e w' => (∃ v, e = .returned v) ∧ Below w.heap.size w w' := by
  have hl : l.length ≤ 150 := ht.1
  have hat := fun W (hW : Below w.heap.size w W) => sAt_any l ao cap o.node W (by unfold maxLen; omega) (hS.nodesAt.stays hW)
  have hmy := fun W (hW : Below w.heap.size w W) => sMay_any l ao cap o.node o.parent W ht (hS.nodesAt.stays hW)
  have hTlt := (Array.getElem?_eq_some_iff.1 hT).1
  have H1 := hide (OpB.start w o)
  have HT := hide hT
  unfold OpV.agg
  have hmc := may_code l o
  unfold mayMove at hm
  rw [← hmc] at hm
  obtain ⟨a, hatI⟩ : ∃ a, atI l o.node = a := ⟨_, rfl⟩
  obtain ⟨c, hcd⟩ : ∃ c, mayCode l o.node o.parent = c := ⟨_, rfl⟩
  rw [hcd] at hm
  simp only [hatI] at hat
  simp only [hcd] at hmy
  have hdec : (c ≠ 0) ∨ (c = 0 ∧ a < 0 ∧ 150 ≤ l.length) := by
    by_cases hc : c = 0
    · right
      refine ⟨hc, ?_⟩
      rcases at_cases l o.node with ⟨ea, en⟩ | ⟨j, hj, ea, en, _⟩
      · rw [en] at hm
        simp [hc] at hm
        exact ⟨by omega, by omega⟩
      · rw [en] at hm
        simp [hc] at hm
    · exact .inl hc
  have HAT := hide hat
  have HMY := hide hmy
  clear hS hat hmy hmc hm hatI hcd ht hT
  haveI : Nonempty (Cls fun W => OpB w W o) := ⟨⟨_, H1.out⟩⟩
  have T0 : ∀ q : (Cls fun W => OpB w W o), q.wd.cell? ⟨T, 0, none⟩ = some (.slice ao l.length cap) := fun q => (cells1 ((q.ok.below.block T hTlt).trans HT.out)).1
  have O3 : ∀ q : (Cls fun W => OpB w W o), q.wd.cell? ⟨w.heap.size, 3, none⟩ = some (.int .i64 o.node) := fun q => (cells7 q.ok.op).2.2.2.1
  have O4 : ∀ q : (Cls fun W => OpB w W o), q.wd.cell? ⟨w.heap.size, 4, none⟩ = some (.int .i64 o.parent) := fun q => (cells7 q.ok.op).2.2.2.2.1
  go_enter Tryz.func99, Tryz.ntmps99
  go_wp2_with fail
  refine wp_region_class (ι := (Cls fun W => OpB w W o)) Cls.wd (by kernel_rfl) (by kernel_rfl) ⟨_, H1.out.drew⟩ rfl ?_
  repeat (go_big_quiet_step (first | (go_at_call 52; rename_i q; refine (HAT.out _ q.ok.below).mono ?_; rintro e w1 ⟨rfl, hw1⟩; exact ⟨rfl, ⟨w1, q.ok.step hw1⟩, rfl⟩)))
  refine wpQuiet_nil ?_
  rintro _ ⟨⟨w4, hV4⟩, rfl⟩
  have HV4 := hide hV4
  clear hV4
  go_wp2_with fail
  rcases hdec with hc | ⟨rfl, ha, h150⟩
  · have hc0 : (c != 0) = true := by simpa using hc
    clear hc
    refine wp_region_class (ι := (Cls fun W => OpB w W o)) Cls.wd (by kernel_rfl) (by kernel_rfl) ⟨_, HV4.out.drew⟩ rfl ?_
    repeat (go_big_quiet_step (first | (go_at_call 42; rename_i q; refine (HMY.out _ q.ok.below).mono ?_; rintro e w1 ⟨rfl, hw1⟩; exact ⟨rfl, ⟨w1, q.ok.step hw1⟩, rfl⟩)))
    refine wpQuiet_nil ?_
    rintro _ ⟨⟨w5, hV5⟩, rfl⟩
    have HV5 := hide hV5
    clear hV5
    go_wp2
    (try simp only [Exit.inBlock, Exit.then])
    refine bodyPost_ret (results_none rfl _ _ _) rfl ?_
    exact ⟨⟨_, rfl⟩, HV5.out.below⟩
  · have h150' : (150 : Int) ≤ (l.length : Int) := by omega
    refine wp_region_class (ι := (Cls fun W => OpB w W o)) Cls.wd (by kernel_rfl) (by kernel_rfl) ⟨_, HV4.out.drew⟩ rfl ?_
    repeat (go_big_quiet_step (first | (go_at_call 42; rename_i q; refine (HMY.out _ q.ok.below).mono ?_; rintro e w1 ⟨rfl, hw1⟩; exact ⟨rfl, ⟨w1, q.ok.step hw1⟩, rfl⟩)))
    refine wpQuiet_nil ?_
    rintro _ ⟨⟨w5, hV5⟩, rfl⟩
    have HV5 := hide hV5
    clear hV5
    go_wp2
    (try simp only [Exit.inBlock, Exit.then])
    refine bodyPost_ret (results_none rfl _ _ _) rfl ?_
    exact ⟨⟨_, rfl⟩, HV5.out.below⟩
end Go.Proofs.YtfkgmkcndchkjaaGreatDoor.OpR
namespace Go.Proofs.YtfkgmkcndchkjaaGreatDoor.OpR
open Go.ChangeShapes Go.WideShapes Go.ChangeAt Go.RowKit
set_option linter.unusedVariables false

theorem ins_set {x : Int} {n : NodG} : ∀ {m : List (Int × NodG)} {j : Nat} (hj : j < m.length), RiseK m → m[j].1 = x → kvIns x n (kvDel m x) = m.set j (x, n)
  | [], j, hj, _, _ => absurd hj (by simp)
  | q :: r, 0, _, hr, h => by
    have hr' := List.pairwise_cons.1 hr
    have hq : q.1 = x := h
    have hd : kvDel (q :: r) x = r := by
      have : kvDel (q :: r) x = kvDel r x := by simp [kvDel, hq]
      rw [this, kvDel_self fun p hp => by have := hr'.1 p hp; omega]
    rw [hd, List.set_cons_zero]
    cases r with
    | nil => rfl
    | cons y s =>
      have := hr'.1 y (by simp)
      rw [kvIns, if_pos (by omega)]
  | q :: r, j + 1, hj, hr, h => by
    have hr' := List.pairwise_cons.1 hr
    have hj' : j < r.length := by simpa using hj
    have hx : r[j].1 = x := h
    have hlt : q.1 < x := by have := hr'.1 _ (List.getElem_mem hj'); omega
    have hd : kvDel (q :: r) x = q :: kvDel r x := by
      have : q.1 ≠ x := by omega
      simp [kvDel, this]
    rw [hd, kvIns, if_neg (by omega), ins_set hj' hr'.2 hx, List.set_cons_succ]
theorem putL_set {l : List NodG} (hr : RisesN l) {n : NodG} {j : Nat} (hj : j < l.length) (h : l[j].id = n.id) : putL l n = l.set j n := by
  unfold putL kvPut
  rw [ins_set (j := j) (by rw [kvOf_len]; exact hj) (riseK_of hr) (by simp [kvOf, h])]
  rw [List.map_set, kvOf_snd]
end Go.Proofs.YtfkgmkcndchkjaaGreatDoor.OpR
namespace Go.Proofs.YtfkgmkcndchkjaaGreatDoor.OpR
open Go.ChangeShapes Go.WideShapes Go.ChangeAt Go.RowKit
set_option linter.unusedVariables false

theorem TreeS.field {w : World} {base g cap : Nat} {l : List NodG} (h : TreeS w base (.slice (some ⟨g, 0, none⟩) l.length cap) l) {j f : Nat} (hj : j < l.length) (hf : f < 4) (u : Value) (x : NodG) (hx : x.cells = l[j].cells.set f u) (hp : x.pao = l[j].pao) (hq : x.props = l[j].props) (hr : x.pcap = l[j].pcap) :
    TreeS (w.setCell ⟨g, j * 4 + f, none⟩ u) base (.slice (some ⟨g, 0, none⟩) (l.set j x).length cap) (l.set j x) := by
  have hm : ∀ n ∈ l.set j x, n ∈ l ∨ n = x := fun n hn => List.mem_or_eq_of_mem_set hn
  have hoff : ∀ n ∈ l.set j x, n.props ≠ [] → ∀ y, n.pao = some y → base ≤ y.block ∧ g ≠ y.block := fun n hn hne y hy => by
    have hh : ∀ n ∈ l, n.props ≠ [] → ∀ y, n.pao = some y → base ≤ y.block ∧ g ≠ y.block := fun n hn hne y hy => by
      have := h.off n hn hne y hy
      exact ⟨this.1, fun e => this.2 (by rw [← e]; rfl)⟩
    rcases hm n hn with hn | rfl
    · exact hh n hn hne y hy
    · exact hh l[j] (List.getElem_mem hj) (by rw [← hq]; exact hne) y (by rw [← hp]; exact hy)
  have hat : ∀ n ∈ l.set j x, PropsAt w n.pao n.props := fun n hn => by
    rcases hm n hn with hn | rfl
    · exact h.at_ n hn
    · rw [hp, hq]; exact h.at_ _ (List.getElem_mem hj)
  refine ⟨?_, fun n hn => ?_, fun n hn hne y hy => ?_, fun n hn => ?_⟩
  · have := owns_store h.row (j * 4 + f) u
    rw [flat_field nod_len l j f hj u x hf hx] at this
    rw [List.length_set]; exact this
  · cases hpn : n.props with
    | nil => exact props_nil _ _
    | cons p r =>
      rw [← hpn]
      exact (hat n hn).set (a := ⟨g, j * 4 + f, none⟩) (fun y hy => Ne.symm (hoff n hn (by rw [hpn]; simp) y hy).2) u
  · have := hoff n hn hne y hy
    exact ⟨this.1, fun e => this.2 (Option.some.inj e)⟩
  · rcases hm n hn with hn | rfl
    · exact h.room n hn
    · rw [hq, hr]; exact h.room _ (List.getElem_mem hj)
/-- No prop of a tree lies in a block; nor does its row. -/
def OffP (T : Nat) (l : List NodG) : Prop := ∀ n ∈ l, n.props ≠ [] → ∀ z, n.pao = some z → z.block ≠ T
structure OffT (T : Nat) (v : Value) (l : List NodG) : Prop where
  row : v.ownBlock ≠ some T
  props : OffP T l
theorem Chg.set {w c : World} {base T : Nat} (h : Chg w c base T) {a : Addr} (ha : base ≤ a.block ∨ a.block = T) (u : Value) : Chg w (c.setCell a u) base T :=
  ⟨h.os, h.tape, h.output, Nat.le_trans h.size (by simp [World.setCell]), fun k hk hb hT => (Below.heap_setCell _ _ _ _ (by omega)).trans (h.block k hk hb hT)⟩
theorem Chg.drew {w c : World} {base T : Nat} (h : Chg w c base T) : Chg w c.drew base T := ⟨h.os, h.tape, h.output, h.size, h.block⟩
theorem TreeS.drew {w : World} {base : Nat} {v : Value} {l : List NodG} (h : TreeS w base v l) : TreeS w.drew base v l := ⟨h.row, h.at_, h.off, h.room⟩

set_option maxRecDepth 100000 in
set_option maxHeartbeats 1000000 in
theorem sMove_at (l : List NodG) (g cap : Nat) (o : OpV) (base T : Nat) (w : World) (ht : TreeR l) (hT : w.heap[T]? = some (.cells #[.slice (some ⟨g, 0, none⟩) l.length cap] 72 (0, 0))) (hS : TreeS w base (.slice (some ⟨g, 0, none⟩) l.length cap) l) (hTg : T ≠ g) (hbg : base ≤ g) (hm : mayCode l o.node o.parent = 0) (j : Nat) (hj : j < l.length) (hat' : atI l o.node = (j : Int)) :
    Calls Tryz.prog 99 #[.pointer (some ⟨T, 0, none⟩), o.agg] w fun e w' => (∃ v, e = .returned v) ∧ w'.heap[T]? = w.heap[T]? ∧ (∃ d, d = l.set j ⟨l[j].id, o.parent, o.name, l[j].props, l[j].pao, l[j].pcap⟩ ∧ TreeS w' base (.slice (some ⟨g, 0, none⟩) d.length cap) d) ∧ Chg w w' base T := by
  have hl : l.length ≤ 150 := ht.1
  have hat := fun W (hW : Below w.heap.size w W) => sAt_any l (some ⟨g, 0, none⟩) cap o.node W (by unfold maxLen; omega) (hS.nodesAt.stays hW)
  have hmy := fun W (hW : Below w.heap.size w W) => sMay_any l (some ⟨g, 0, none⟩) cap o.node o.parent W ht (hS.nodesAt.stays hW)
  have hTlt := (Array.getElem?_eq_some_iff.1 hT).1
  have H1 := hide (OpB.start w o)
  have HT := hide hT
  have HS := hide hS
  unfold OpV.agg
  simp only [hat'] at hat
  simp only [hm] at hmy
  have HAT := hide hat
  have HMY := hide hmy
  have hj0 : (0 : Int) ≤ (j : Int) := by omega
  have hj1 : (j : Int) < (l.length : Int) := by omega
  have hj2 : decide ((j : Int) < 0) = false := by simp
  clear hS hat hmy hm hat' ht hT
  haveI : Nonempty (Cls fun W => OpB w W o) := ⟨⟨_, H1.out⟩⟩
  have T0 : ∀ q : (Cls fun W => OpB w W o), q.wd.cell? ⟨T, 0, none⟩ = some (.slice (some ⟨g, 0, none⟩) l.length cap) := fun q => (cells1 ((q.ok.below.block T hTlt).trans HT.out)).1
  have O3 : ∀ q : (Cls fun W => OpB w W o), q.wd.cell? ⟨w.heap.size, 3, none⟩ = some (.int .i64 o.node) := fun q => (cells7 q.ok.op).2.2.2.1
  have O4 : ∀ q : (Cls fun W => OpB w W o), q.wd.cell? ⟨w.heap.size, 4, none⟩ = some (.int .i64 o.parent) := fun q => (cells7 q.ok.op).2.2.2.2.1
  go_enter Tryz.func99, Tryz.ntmps99
  go_wp2_with fail
  refine wp_region_class (ι := (Cls fun W => OpB w W o)) Cls.wd (by kernel_rfl) (by kernel_rfl) ⟨_, H1.out.drew⟩ rfl ?_
  repeat (go_big_quiet_step (first | (go_at_call 52; rename_i q; refine (HAT.out _ q.ok.below).mono ?_; rintro e w1 ⟨rfl, hw1⟩; exact ⟨rfl, ⟨w1, q.ok.step hw1⟩, rfl⟩)))
  refine wpQuiet_nil ?_
  rintro _ ⟨⟨w4, hV4⟩, rfl⟩
  have HV4 := hide hV4
  clear hV4
  go_wp2_with fail
  refine wp_region_class (ι := (Cls fun W => OpB w W o)) Cls.wd (by kernel_rfl) (by kernel_rfl) ⟨_, HV4.out.drew⟩ rfl ?_
  repeat (go_big_quiet_step (first | (go_at_call 42; rename_i q; refine (HMY.out _ q.ok.below).mono ?_; rintro e w1 ⟨rfl, hw1⟩; exact ⟨rfl, ⟨w1, q.ok.step hw1⟩, rfl⟩)))
  refine wpQuiet_nil ?_
  rintro w5 ⟨q5, e5⟩
  have hV5 : OpB w w5 o := by rw [e5]; exact q5.ok
  clear e5 q5
  have HV5 := hide hV5
  have hS5 := HS.out.stays hV5.below
  have HS5 := hide hS5
  have t0 : w5.cell? ⟨T, 0, none⟩ = some (.slice (some ⟨g, 0, none⟩) l.length cap) := (cells1 ((hV5.below.block T hTlt).trans HT.out)).1
  obtain ⟨o0, o1, o2, o3, o4, o5, o6⟩ := cells7 hV5.op
  obtain ⟨b', off', e', _, ⟨n0, n1, n2, n3⟩, _⟩ := hS5.nodesAt j hj
  cases e'
  simp only [Nat.zero_add] at n0 n1 n2 n3
  have f1 := row_frozen hS5.row (j * 4 + 1)
  have f2 := row_frozen hS5.row (j * 4 + 2)
  clear hV5 hS5 T0 O3 O4
  go_wp2_with fail
  go_region
  have hglt : g < w.heap.size := (HS.out.row.lt g rfl).2
  have hV6 : ((w5.setCell ⟨g, j * 4 + 1, none⟩ (.int .i64 o.parent)).drew).heap[w.heap.size]? = _ := (Below.heap_setCell _ _ _ _ (show w.heap.size ≠ g by omega)).trans HV5.out.op
  have hT6 : ((w5.setCell ⟨g, j * 4 + 1, none⟩ (.int .i64 o.parent)).drew).heap[T]? = _ := (Below.heap_setCell _ _ _ _ (show T ≠ g by omega)).trans ((HV5.out.below.block T hTlt).trans HT.out)
  have hC6 : Chg w ((w5.setCell ⟨g, j * 4 + 1, none⟩ (.int .i64 o.parent)).drew) base T := ((Chg.of HV5.out.below).set (a := ⟨g, j * 4 + 1, none⟩) (.inl hbg) _).drew
  have hS6 := (HS5.out.field (f := 1) hj (by omega) (.int .i64 o.parent) ⟨l[j].id, o.parent, l[j].name, l[j].props, l[j].pao, l[j].pcap⟩ rfl rfl rfl rfl).drew
  obtain ⟨w6, hw6⟩ : ∃ w6, (w5.setCell ⟨g, j * 4 + 1, none⟩ (.int .i64 o.parent)).drew = w6 := ⟨_, rfl⟩
  rw [hw6] at hV6 hT6 hC6 hS6 ⊢
  have HT6 := hide hT6
  have HC6 := hide hC6
  have HS6 := hide hS6
  clear hw6 t0 o0 o1 o2 o3 o4 o5 o6 n0 n1 n2 n3 f1 f2
  have t0 := (cells1 hT6).1
  obtain ⟨o0, o1, o2, o3, o4, o5, o6⟩ := cells7 hV6
  have f2 := row_frozen hS6.row (j * 4 + 2)
  have n2 : w6.cell? ⟨g, j * 4 + 2, none⟩ = some (.string l[j].name) := by
    obtain ⟨c2, e2, e', _, h2⟩ := owns_atN (l := l.set j ⟨l[j].id, o.parent, l[j].name, l[j].props, l[j].pao, l[j].pcap⟩) hS6.row
    cases e'
    have := (h2.at0N (k := j) (by simpa using hj)).2.2.1
    simpa using this
  clear hV6 hT6 hC6 hS6
  go_wp2_with fail
  go_region
  have hT7 : ((w6.setCell ⟨g, j * 4 + 2, none⟩ (.string o.name)).drew).heap[T]? = _ := (Below.heap_setCell _ _ _ _ (show T ≠ g by omega)).trans HT6.out
  have hC7 : Chg w ((w6.setCell ⟨g, j * 4 + 2, none⟩ (.string o.name)).drew) base T := (HC6.out.set (a := ⟨g, j * 4 + 2, none⟩) (.inl hbg) _).drew
  have hS6 := HS6.out
  have hS7 := (hS6.field (j := j) (f := 2) (by simpa using hj) (by omega) (.string o.name) ⟨l[j].id, o.parent, o.name, l[j].props, l[j].pao, l[j].pcap⟩ (by simp [NodG.cells]) (by simp) (by simp) (by simp)).drew
  rw [List.set_set] at hS7
  go_wp2
  (try simp only [Exit.inBlock, Exit.then])
  refine bodyPost_ret (results_none rfl _ _ _) rfl ?_
  exact ⟨⟨_, rfl⟩, hT7.trans HT.out.symm, ⟨_, rfl, hS7⟩, hC7⟩
end Go.Proofs.YtfkgmkcndchkjaaGreatDoor.OpR
namespace Go.Proofs.YtfkgmkcndchkjaaGreatDoor.OpR
open Go.ChangeShapes Go.WideShapes Go.ChangeAt Go.RowKit
set_option linter.unusedVariables false

theorem empty_nodes (X : World) : (X.alloc (.cells #[] 120)).ownsRow X.heap.size 120 4 (.slice (some ⟨X.heap.size, 0, none⟩) 0 0) ([] : List NodG).length (flatG NodG.cells []) :=
  World.ownsRow_made X #[] 0 (Nat.le_refl _) (by decide) rfl
theorem one_node (W : World) (x : NodG) : NCells (W.alloc (.cells #[.int .i64 x.id, .int .i64 x.parent, .string x.name, .slice x.pao x.props.length x.pcap] 120)) (some ⟨W.heap.size, 0, none⟩) [x] := fun j hj => by
  obtain rfl : j = 0 := by simpa using hj
  have h := cells4 (heap_alloc_new W (.cells #[.int .i64 x.id, .int .i64 x.parent, .string x.name, .slice x.pao x.props.length x.pcap] 120))
  exact ⟨_, _, rfl, by simp, h.1, h.2.1, h.2.2.1, h.2.2.2.1⟩
/-- The two parts of a row, as slices. -/
theorem slices_of {w : World} {base : Nat} {ao : Option Addr} {cap : Nat} {l : List NodG} (h : w.ownsRow base 120 4 (.slice ao l.length cap) l.length (flatG NodG.cells l)) {k : Nat} (hk : k ≤ l.length) :
    ∃ (a1 a2 : Option Addr) (c1 c2 : Nat) (p q : List NodG), (p = l.take k ∧ q = l.drop k) ∧ (∀ W, (Instr.slice 70 (.slice ao l.length cap) none (some (.int .i64 (k : Int))) none).run Tryz.prog W = .ok (.slice a1 p.length c1) W) ∧ (∀ W, (Instr.slice 70 (.slice ao l.length cap) (some (.int .i64 (k : Int))) none none).run Tryz.prog W = .ok (.slice a2 q.length c2) W) ∧ ∀ W, NCells W ao l → NCells W a1 p ∧ NCells W a2 q := by
  have ht : Tryz.prog.underlying 70 = some (.slice (Tryz.prog.elem 70)) := by kernel_rfl
  have hs : ∀ w, (sizeOf (Tryz.prog.elem 70)).run Tryz.prog w = .ok 4 w := fun _ => by kernel_rfl
  have e1 : (l.take k).length = k := by rw [List.length_take]; omega
  have e2 : (l.drop k).length = l.length - k := by rw [List.length_drop]
  rcases h.2 with ⟨e, hn⟩ | ⟨g, cap', cur, e, hb, hg, h1, h2, h3, h4⟩
  · simp only [Value.slice.injEq] at e
    obtain ⟨rfl, _, rfl⟩ := e
    have hk0 : k = 0 := by omega
    have hl0 : l = [] := List.eq_nil_of_length_eq_zero hn
    subst hk0 hl0
    refine ⟨none, none, 0, 0, _, _, ⟨rfl, rfl⟩, fun W => ?_, fun W => ?_, fun W hW => ⟨hW, hW⟩⟩
    · rw [run_slice_h W 70 none _ 0 ht .i64 ((0 : Nat) : Int) (by simp) (by simp), hs]
      simp [Result.andThen, sliced]
    · rw [run_slice_l W 70 none _ 0 ht .i64 ((0 : Nat) : Int) (by simp) (by simp), hs]
      simp [Result.andThen, sliced]
  · simp only [Value.slice.injEq] at e
    obtain ⟨rfl, _, rfl⟩ := e
    refine ⟨some ⟨g, 0, none⟩, some ⟨g, fromN 0 cap k, none⟩, cap, cap - k, _, _, ⟨rfl, rfl⟩, fun W => ?_, fun W => ?_, fun W hW => ⟨hW.take k, hW.from k h1⟩⟩
    · rw [e1, run_slice_h W 70 (some ⟨g, 0, none⟩) l.length cap ht .i64 (k : Int) (by omega) (by omega), hs]
      simp [Result.andThen, sliced, Addr.add]
    · rw [e2]
      exact slice_fromN W g 0 l.length cap k k rfl hk

theorem new_tree {w y : World} {base T X : Nat} {v v3 : Value} {l p q : List NodG} {x : NodG} (hS : TreeS w base v l) (hb : Below w.heap.size w y) (ho : y.ownsRow X 120 4 v3 (p ++ [(⟨x.id, x.parent, x.name, [], none, 0⟩ : NodG)] ++ q).length (flatG NodG.cells (p ++ [(⟨x.id, x.parent, x.name, [], none, 0⟩ : NodG)] ++ q))) (hX : w.heap.size ≤ X) (hTl : T < w.heap.size) (hOT : OffP T l) (hb2 : base ≤ w.heap.size) (hp : ∀ n ∈ p, n ∈ l) (hq : ∀ n ∈ q, n ∈ l) :
    TreeS (y.setCell ⟨T, 0, none⟩ v3) base v3 (p ++ (⟨x.id, x.parent, x.name, [], none, 0⟩ : NodG) :: q) := by
  have e : p ++ [(⟨x.id, x.parent, x.name, [], none, 0⟩ : NodG)] ++ q = p ++ (⟨x.id, x.parent, x.name, [], none, 0⟩ : NodG) :: q := by simp
  rw [e] at ho
  have hm : ∀ n ∈ p ++ (⟨x.id, x.parent, x.name, [], none, 0⟩ : NodG) :: q, n ∈ l ∨ n.props = [] := fun n hn => by
    rcases List.mem_append.1 hn with hn | hn
    · exact .inl (hp n hn)
    · rcases List.mem_cons.1 hn with rfl | hn
      · exact .inr rfl
      · exact .inl (hq n hn)
  refine ⟨owns_lower (ownsRow_setCell_below ho (show T < X by omega) _) (by omega), fun n hn => ?_, fun n hn hne z hz => ?_, fun n hn => ?_⟩
  · cases hpn : n.props with
    | nil => exact props_nil _ _
    | cons a r =>
      have hl := (hm n hn).resolve_right (by rw [hpn]; simp)
      rw [← hpn]
      exact ((hS.at_ n hl).stays hb).set (a := ⟨T, 0, none⟩) (fun z hz => hOT n hl (by rw [hpn]; simp) z hz) _
  · have hl := (hm n hn).resolve_right hne
    refine ⟨(hS.off n hl hne z hz).1, fun e => ?_⟩
    have h1 := (ho.lt _ e).1
    obtain ⟨b, off, e2, hlt, _⟩ := hS.at_ n hl 0 (List.length_pos_iff.2 hne)
    rw [hz] at e2
    have h3 : z.block = b := congrArg Addr.block (Option.some.inj e2)
    omega
  · rcases hm n hn with hl | e
    · exact hS.room n hl
    · rw [e]; simp

set_option maxRecDepth 100000 in
set_option maxHeartbeats 1000000 in
theorem sMove_new (l : List NodG) (ao : Option Addr) (cap : Nat) (o : OpV) (base T : Nat) (w : World) (ht : TreeR l) (hT : w.heap[T]? = some (.cells #[.slice ao l.length cap] 72 (0, 0))) (hS : TreeS w base (.slice ao l.length cap) l) (hOT : OffP T l) (hb2 : base ≤ w.heap.size) (hm : mayCode l o.node o.parent = 0) (hat' : atI l o.node = -1) (hlen : l.length < 150) :
    Calls Tryz.prog 99 #[.pointer (some ⟨T, 0, none⟩), o.agg] w fun e w' => (∃ v, e = .returned v) ∧ ∃ v k, k ≤ l.length ∧ (∀ j (hj : j < l.length), j < k → l[j].id < o.node) ∧ (∀ hk : k < l.length, ¬ l[k].id < o.node) ∧ w'.heap[T]? = some (.cells #[v] 72 (0, 0)) ∧ TreeS w' base v (l.take k ++ ⟨o.node, o.parent, o.name, [], none, 0⟩ :: l.drop k) ∧ (∀ x, v.ownBlock = some x → w.heap.size ≤ x) ∧ Chg w w' base T := by
  have hl : l.length ≤ 150 := ht.1
  have hat := fun W (hW : Below w.heap.size w W) => sAt_any l ao cap o.node W (by unfold maxLen; omega) (hS.nodesAt.stays hW)
  have hmy := fun W (hW : Below w.heap.size w W) => sMay_any l ao cap o.node o.parent W ht (hS.nodesAt.stays hW)
  have hTlt := (Array.getElem?_eq_some_iff.1 hT).1
  have HOT := hide hOT
  clear hOT
  have H1 := hide (OpB.start w o)
  have HT := hide hT
  have HS := hide hS
  unfold OpV.agg
  simp only [hat'] at hat
  simp only [hm] at hmy
  have HAT := hide hat
  have HMY := hide hmy
  have hlen' : ¬ (150 : Int) ≤ (l.length : Int) := by omega
  clear hS hat hmy hm hat' ht hT
  haveI : Nonempty (Cls fun W => OpB w W o) := ⟨⟨_, H1.out⟩⟩
  have T0 : ∀ q : (Cls fun W => OpB w W o), q.wd.cell? ⟨T, 0, none⟩ = some (.slice ao l.length cap) := fun q => (cells1 ((q.ok.below.block T hTlt).trans HT.out)).1
  have O3 : ∀ q : (Cls fun W => OpB w W o), q.wd.cell? ⟨w.heap.size, 3, none⟩ = some (.int .i64 o.node) := fun q => (cells7 q.ok.op).2.2.2.1
  have O4 : ∀ q : (Cls fun W => OpB w W o), q.wd.cell? ⟨w.heap.size, 4, none⟩ = some (.int .i64 o.parent) := fun q => (cells7 q.ok.op).2.2.2.2.1
  go_enter Tryz.func99, Tryz.ntmps99
  go_wp2_with fail
  refine wp_region_class (ι := (Cls fun W => OpB w W o)) Cls.wd (by kernel_rfl) (by kernel_rfl) ⟨_, H1.out.drew⟩ rfl ?_
  repeat (go_big_quiet_step (first | (go_at_call 52; rename_i q; refine (HAT.out _ q.ok.below).mono ?_; rintro e w1 ⟨rfl, hw1⟩; exact ⟨rfl, ⟨w1, q.ok.step hw1⟩, rfl⟩)))
  refine wpQuiet_nil ?_
  rintro _ ⟨⟨w4, hV4⟩, rfl⟩
  have HV4 := hide hV4
  clear hV4
  go_wp2_with fail
  refine wp_region_class (ι := (Cls fun W => OpB w W o)) Cls.wd (by kernel_rfl) (by kernel_rfl) ⟨_, HV4.out.drew⟩ rfl ?_
  repeat (go_big_quiet_step (first | (go_at_call 42; rename_i q; refine (HMY.out _ q.ok.below).mono ?_; rintro e w1 ⟨rfl, hw1⟩; exact ⟨rfl, ⟨w1, q.ok.step hw1⟩, rfl⟩)))
  refine wpQuiet_nil ?_
  rintro w5 ⟨q5, e5⟩
  have hV5 : OpB w w5 o := by rw [e5]; exact q5.ok
  clear e5 q5
  have HV5 := hide hV5
  clear hV5 T0 O3 O4
  go_wp2_with fail
  go_loopw [4] (fun i wr => ∃ k : Nat, k ≤ l.length ∧ i = .int .i64 k ∧ (∀ j (hj : j < l.length), j < k → l[j].id < o.node) ∧ OpB w wr o) (fun i _ => l.length - (intOf i).toNat)
  case atStart => exact ⟨0, by omega, rfl, fun j hj h => by omega, HV5.out⟩
  case round =>
    obtain ⟨k, hk, rfl, hlow, hV⟩ := hrel
    have HV := hide hV
    have HLow := hide hlow
    have HKL := hide hk
    have t0 := (cells1 ((hV.below.block T hTlt).trans HT.out)).1
    obtain ⟨o0, o1, o2, o3, o4, o5, o6⟩ := cells7 hV.op
    have hNd := (HS.out.stays hV.below).nodesAt
    clear hlow hV
    by_cases h : k < l.length
    · obtain ⟨b', off', rfl, _, ⟨n0, n1, n2, n3⟩, _⟩ := hNd k h
      have hi0 : (0 : Int) ≤ (k : Int) := by omega
      have hi1 : (k : Int) < (l.length : Int) := by omega
      clear hNd
      by_cases hlt : l[k].id < o.node
      · go_wp2_with fail
        go_region
        go_wp2
        go_roundw
        case rel =>
          refine ⟨k + 1, by omega, by go_num, fun j hj hjk => ?_, HV.out.drew⟩
          rcases Nat.lt_or_ge j k with h' | h'
          · exact HLow.out j hj h'
          · obtain rfl : j = k := by omega
            exact hlt
        case measure => simp [intOf]; omega
      · have HUp : Hid (∀ hk : k < l.length, ¬ l[k].id < o.node) := ⟨fun _ => hlt⟩
        have hlt' : decide (l[k].id < o.node) = false := by simpa using hlt
        clear hlt
        go_wp2_with fail
        go_region
        obtain ⟨X, hX⟩ : ∃ X, wr.drew = X := ⟨_, rfl⟩
        have HX : Hid (OpB w X o) := ⟨by rw [← hX]; exact HV.out.drew⟩
        rw [hX]
        clear hX t0 o0 o1 o2 o3 o4 o5 o6 n0 n1 n2 n3 hlt'
        have hXs := HX.out.below.size
        have hTX : X.heap[T]? = _ := (HX.out.below.block T hTlt).trans HT.out
        have hTXlt : T < X.heap.size := by omega
        have t0 := (cells1 ((Below.heap_alloc X (.cells #[] 120) T hTXlt).trans hTX)).1
        obtain ⟨a1, a2, c1, c2, p, q, hpq, hsl1, hsl2, hNC⟩ := slices_of HS.out.row HKL.out
        have HPQ := hide hpq
        have HNC := hide hNC
        have hNl : NCells X (some ⟨b', off', none⟩) l := by
          obtain ⟨a', c', e', _, h'⟩ := owns_atN (HS.out.stays HX.out.below).row
          simp only [Value.slice.injEq] at e'
          obtain ⟨rfl, _, _⟩ := e'
          exact h'
        have HNL := hide hNl
        have HLP : Hid (p.length ≤ 150 ∧ q.length ≤ 150) := ⟨by rw [hpq.1, hpq.2, List.length_take, List.length_drop]; omega⟩
        have HE := hide (empty_nodes X)
        have hXlt := HX.out.lt
        clear hpq hNC hNl hTX
        go_wp2_with (first | (at_builtin; refine wpList_append_N rfl _ _ rfl X.heap.size (.slice (some ⟨X.heap.size, 0, none⟩) 0 0) [] rfl HE.out a1 p c1 rfl (((HNC.out X HNL.out).1).stays ((Below.refl _ _).alloc (Nat.le_refl _) _)) (by have := HLP.out; simp; omega) (by simp) ?_; intro v1 y1 ho1 hg1 hn1; clear hn1; simp only [List.nil_append] at ho1; have HO1 := hide ho1; have HY1 : Hid (Below X.heap.size X y1) := ⟨((Below.refl _ _).alloc (Nat.le_refl _) _).grown hg1 (by simp) (fun j hj => by simp [Value.ownBlock] at hj; omega)⟩; have HB1 := hide (HX.out.step HY1.out); clear ho1 hg1 t0 HE hsl1; obtain ⟨o0, o1, o2, o3, o4, o5, o6⟩ := cells7 HB1.out.op) | (at_builtin; refine wpList_append_N rfl _ _ rfl X.heap.size v1 p rfl (HO1.out.alloc _) (some ⟨y1.heap.size, 0, none⟩) [⟨o.node, o.parent, o.name, [], none, 0⟩] 1 rfl (one_node y1 ⟨o.node, o.parent, o.name, [], none, 0⟩) (by have := HLP.out; simp; omega) (by have := HY1.out.size; simp; omega) ?_; intro v2 y2 ho2 hg2 hn2; clear hn2; have HO2 := hide ho2; have HY2 : Hid (Below X.heap.size X y2) := ⟨(HY1.out.alloc HY1.out.size _).grown hg2 (by have := HY1.out.size; simp; omega) (fun j hj => (HO1.out.lt j hj).1)⟩; have HB2 := hide (HX.out.step HY2.out); clear ho2 hg2 o0 o1 o2 o3 o4 o5 o6; have t0 := (cells1 ((HB2.out.below.block T hTlt).trans HT.out)).1) | (at_builtin; refine wpList_append_N rfl _ _ rfl X.heap.size v2 (p ++ [⟨o.node, o.parent, o.name, [], none, 0⟩]) rfl HO2.out a2 q c2 rfl (((HNC.out X HNL.out).2).stays HY2.out) (by have := HLP.out; simp; omega) HY2.out.size ?_; intro v3 y3 ho3 hg3 hn3; clear hn3; obtain ⟨a3, c3, hv3, _, _⟩ := owns_atN ho3; generalize (p ++ [(⟨o.node, o.parent, o.name, [], none, 0⟩ : NodG)] ++ q).length = N3 at hv3; subst hv3; have HO3 := hide ho3; have HY3 : Hid (Below X.heap.size X y3) := ⟨HY2.out.grown hg3 HY2.out.size (fun j hj => (HO2.out.lt j hj).1)⟩; have HB3 := hide (HX.out.step HY3.out); clear ho3 hg3 t0; have HT3 := hide ((HB3.out.below.block T hTlt).trans HT.out); have t0 := (cells1 HT3.out).1; have t1 := (cells1 HT3.out).2))
        go_end0
        refine ⟨⟨_, rfl⟩, (.slice a3 N3 c3), k, HKL.out, HLow.out, HUp.out, set_block HT3.out 0 (.slice a3 N3 c3), ?_, fun z hz => by have h1 := (HO3.out.lt z hz).1; have h2 := HX.out.below.size; omega, (Chg.of HB3.out.below).set (a := ⟨T, 0, none⟩) (.inr rfl) _⟩
        rw [← HPQ.out.1, ← HPQ.out.2]
        exact new_tree (p := p) (q := q) (x := ⟨o.node, o.parent, o.name, [], none, 0⟩) HS.out HB3.out.below (HO3.out) HX.out.below.size hTlt HOT.out hb2 (fun n hn => by rw [HPQ.out.1] at hn; exact List.mem_of_mem_take hn) (fun n hn => by rw [HPQ.out.2] at hn; exact List.mem_of_mem_drop hn)
    · obtain rfl : k = l.length := by omega
      have HUp : Hid (∀ hk : l.length < l.length, ¬ l[l.length].id < o.node) := ⟨fun hh => absurd hh (by omega)⟩
      clear hNd
      go_wp2_with fail
      go_region
      obtain ⟨X, hX⟩ : ∃ X, wr.drew = X := ⟨_, rfl⟩
      have HX : Hid (OpB w X o) := ⟨by rw [← hX]; exact HV.out.drew⟩
      rw [hX]
      clear hX t0 o0 o1 o2 o3 o4 o5 o6
      have hXs := HX.out.below.size
      have hTX : X.heap[T]? = _ := (HX.out.below.block T hTlt).trans HT.out
      have hTXlt : T < X.heap.size := by omega
      have t0 := (cells1 ((Below.heap_alloc X (.cells #[] 120) T hTXlt).trans hTX)).1
      obtain ⟨a1, a2, c1, c2, p, q, hpq, hsl1, hsl2, hNC⟩ := slices_of HS.out.row HKL.out
      have HPQ := hide hpq
      have HNC := hide hNC
      have hNl : NCells X ao l := by
        obtain ⟨a', c', e', _, h'⟩ := owns_atN (HS.out.stays HX.out.below).row
        simp only [Value.slice.injEq] at e'
        obtain ⟨rfl, _, _⟩ := e'
        exact h'
      have HNL := hide hNl
      have HLP : Hid (p.length ≤ 150 ∧ q.length ≤ 150) := ⟨by rw [hpq.1, hpq.2, List.length_take, List.length_drop]; omega⟩
      have HE := hide (empty_nodes X)
      have hXlt := HX.out.lt
      clear hpq hNC hNl hTX
      go_wp2_with (first | (at_builtin; refine wpList_append_N rfl _ _ rfl X.heap.size (.slice (some ⟨X.heap.size, 0, none⟩) 0 0) [] rfl HE.out a1 p c1 rfl (((HNC.out X HNL.out).1).stays ((Below.refl _ _).alloc (Nat.le_refl _) _)) (by have := HLP.out; simp; omega) (by simp) ?_; intro v1 y1 ho1 hg1 hn1; clear hn1; simp only [List.nil_append] at ho1; have HO1 := hide ho1; have HY1 : Hid (Below X.heap.size X y1) := ⟨((Below.refl _ _).alloc (Nat.le_refl _) _).grown hg1 (by simp) (fun j hj => by simp [Value.ownBlock] at hj; omega)⟩; have HB1 := hide (HX.out.step HY1.out); clear ho1 hg1 t0 HE hsl1; obtain ⟨o0, o1, o2, o3, o4, o5, o6⟩ := cells7 HB1.out.op) | (at_builtin; refine wpList_append_N rfl _ _ rfl X.heap.size v1 p rfl (HO1.out.alloc _) (some ⟨y1.heap.size, 0, none⟩) [⟨o.node, o.parent, o.name, [], none, 0⟩] 1 rfl (one_node y1 ⟨o.node, o.parent, o.name, [], none, 0⟩) (by have := HLP.out; simp; omega) (by have := HY1.out.size; simp; omega) ?_; intro v2 y2 ho2 hg2 hn2; clear hn2; have HO2 := hide ho2; have HY2 : Hid (Below X.heap.size X y2) := ⟨(HY1.out.alloc HY1.out.size _).grown hg2 (by have := HY1.out.size; simp; omega) (fun j hj => (HO1.out.lt j hj).1)⟩; have HB2 := hide (HX.out.step HY2.out); clear ho2 hg2 o0 o1 o2 o3 o4 o5 o6; have t0 := (cells1 ((HB2.out.below.block T hTlt).trans HT.out)).1) | (at_builtin; refine wpList_append_N rfl _ _ rfl X.heap.size v2 (p ++ [⟨o.node, o.parent, o.name, [], none, 0⟩]) rfl HO2.out a2 q c2 rfl (((HNC.out X HNL.out).2).stays HY2.out) (by have := HLP.out; simp; omega) HY2.out.size ?_; intro v3 y3 ho3 hg3 hn3; clear hn3; obtain ⟨a3, c3, hv3, _, _⟩ := owns_atN ho3; generalize (p ++ [(⟨o.node, o.parent, o.name, [], none, 0⟩ : NodG)] ++ q).length = N3 at hv3; subst hv3; have HO3 := hide ho3; have HY3 : Hid (Below X.heap.size X y3) := ⟨HY2.out.grown hg3 HY2.out.size (fun j hj => (HO2.out.lt j hj).1)⟩; have HB3 := hide (HX.out.step HY3.out); clear ho3 hg3 t0; have HT3 := hide ((HB3.out.below.block T hTlt).trans HT.out); have t0 := (cells1 HT3.out).1; have t1 := (cells1 HT3.out).2))
      go_end0
      refine ⟨⟨_, rfl⟩, (.slice a3 N3 c3), l.length, HKL.out, HLow.out, HUp.out, set_block HT3.out 0 (.slice a3 N3 c3), ?_, fun z hz => by have h1 := (HO3.out.lt z hz).1; have h2 := HX.out.below.size; omega, (Chg.of HB3.out.below).set (a := ⟨T, 0, none⟩) (.inr rfl) _⟩
      rw [← HPQ.out.1, ← HPQ.out.2]
      exact new_tree (p := p) (q := q) (x := ⟨o.node, o.parent, o.name, [], none, 0⟩) HS.out HB3.out.below (HO3.out) HX.out.below.size hTlt HOT.out hb2 (fun n hn => by rw [HPQ.out.1] at hn; exact List.mem_of_mem_take hn) (fun n hn => by rw [HPQ.out.2] at hn; exact List.mem_of_mem_drop hn)
end Go.Proofs.YtfkgmkcndchkjaaGreatDoor.OpR
namespace Go.Proofs.YtfkgmkcndchkjaaGreatDoor.OpR
open Go.ChangeShapes Go.WideShapes Go.ChangeAt Go.RowKit
set_option linter.unusedVariables false

theorem ins_at {x : Int} {n : NodG} : ∀ {m : List (Int × NodG)} {k : Nat}, k ≤ m.length → (∀ j (hj : j < m.length), j < k → m[j].1 < x) → (∀ hk : k < m.length, x < m[k].1) → kvIns x n m = m.take k ++ (x, n) :: m.drop k
  | [], k, hk, _, _ => by
    obtain rfl : k = 0 := by simpa using hk
    rfl
  | q :: r, 0, _, _, h2 => by
    have : x < q.1 := h2 (by simp)
    rw [kvIns, if_pos this]
    rfl
  | q :: r, k + 1, hk, h1, h2 => by
    have hq : q.1 < x := h1 0 (by simp) (by omega)
    rw [kvIns, if_neg (by omega), ins_at (m := r) (k := k) (by simpa using hk) (fun j hj hjk => h1 (j + 1) (by simpa using hj) (by omega)) (fun hk => h2 (by simpa using hk))]
    rfl
theorem putL_new {l : List NodG} {n : NodG} (h : nodOf l n.id = none) {k : Nat} (hk : k ≤ l.length) (h1 : ∀ j (hj : j < l.length), j < k → l[j].id < n.id) (h2 : ∀ hk : k < l.length, ¬ l[k].id < n.id) : putL l n = l.take k ++ n :: l.drop k := by
  unfold putL kvPut
  rw [kvDel_self (kvAt_none (by rw [kvAt_of]; exact h)), ins_at (k := k) (by rw [kvOf_len]; exact hk) (fun j hj hjk => by simpa [kvOf] using h1 j (by simpa [kvOf] using hj) hjk) (fun hk' => ?_)]
  · rw [List.map_append, List.map_cons, List.map_take, List.map_drop, kvOf_snd]
  · have hk2 : k < l.length := by simpa [kvOf] using hk'
    have h3 := h2 hk2
    have h4 := nodOf_none h l[k] (List.getElem_mem hk2)
    have : n.id < l[k].id := by omega
    simpa [kvOf] using this
theorem sMove_any (l : List NodG) (ao : Option Addr) (cap : Nat) (o : OpV) (base T : Nat) (w : World) (ht : TreeR l) (hk : o.kind = 1) (hT : w.heap[T]? = some (.cells #[.slice ao l.length cap] 72 (0, 0))) (hS : TreeS w base (.slice ao l.length cap) l) (hO : OffT T (.slice ao l.length cap) l) (hb2 : base ≤ w.heap.size) :
    Calls Tryz.prog 99 #[.pointer (some ⟨T, 0, none⟩), o.agg] w fun e w' => (∃ v, e = .returned v) ∧ ∃ v d, w'.heap[T]? = some (.cells #[v] 72 (0, 0)) ∧ TreeS w' base v d ∧ OffT T v d ∧ d.map NodG.bare = (tdo l o none 0).map NodG.bare ∧ Chg w w' base T := by
  have hTlt := (Array.getElem?_eq_some_iff.1 hT).1
  have htd : tdo l o none 0 = if mayMove l o then putL l (moveN o ((nodOf l o.node).getD NodG.zero)) else l := by unfold tdo; rw [if_pos hk]
  cases hm : mayMove l o with
  | false =>
    refine (sMove_no l ao cap o base T w ht hT hS hm).mono ?_
    rintro e w' ⟨hv, hb⟩
    exact ⟨hv, _, l, (hb.block T hTlt).trans hT, hS.stays hb, hO, by rw [htd, hm]; rfl, Chg.of hb⟩
  | true =>
    have hm' := hm
    unfold mayMove at hm'
    rw [← may_code, Bool.and_eq_true] at hm'
    have hc : mayCode l o.node o.parent = 0 := by simpa using hm'.1
    rcases at_cases l o.node with ⟨ea, en⟩ | ⟨j, hj, ea, en, eid⟩
    · have hlen : l.length < 150 := by
        have := hm'.2
        rw [en] at this
        simpa using this
      refine (sMove_new l ao cap o base T w ht hT hS hO.props hb2 hc ea hlen).mono ?_
      rintro e w' ⟨hv, v, k, hk', h1, h2, hT', hS', hfar, hC⟩
      refine ⟨hv, v, _, hT', hS', ⟨fun e => (by have := hfar T e; omega), fun x hx hne => ?_⟩, ?_, hC⟩
      · rcases List.mem_append.1 hx with hx | hx
        · exact hO.props x (List.mem_of_mem_take hx) hne
        · rcases List.mem_cons.1 hx with rfl | hx
          · exact absurd rfl hne
          · exact hO.props x (List.mem_of_mem_drop hx) hne
      rw [htd, hm, en, if_pos rfl]
      rw [putL_new (n := moveN o (Option.getD none NodG.zero)) en hk' h1 h2]
      rfl
    · obtain ⟨g, hg, hgb⟩ : ∃ g, ao = some ⟨g, 0, none⟩ ∧ base ≤ g := by
        rcases hS.row.2 with ⟨e, hn⟩ | ⟨g, cap', cur, e, hb, _⟩
        · omega
        · simp only [Value.slice.injEq] at e
          exact ⟨g, e.1, hb⟩
      subst hg
      refine (sMove_at l g cap o base T w ht hT hS (fun e => hO.row (by rw [e]; rfl)) hgb hc j hj ea).mono ?_
      rintro e w' ⟨hv, hT', ⟨d, rfl, hS'⟩, hC⟩
      have hl : (l.set j ⟨l[j].id, o.parent, o.name, l[j].props, l[j].pao, l[j].pcap⟩).length = l.length := List.length_set
      refine ⟨hv, _, _, hT'.trans hT, by rw [← hl]; exact hS', ⟨hO.row, fun x hx hne => ?_⟩, ?_, hC⟩
      · rcases List.mem_or_eq_of_mem_set hx with hx | rfl
        · exact hO.props x hx hne
        · exact hO.props l[j] (List.getElem_mem hj) hne
      rw [htd, hm, en, if_pos rfl]
      rw [putL_set ht.2.1 (n := moveN o ((some l[j]).getD NodG.zero)) hj eid, eid]
      rfl
end Go.Proofs.YtfkgmkcndchkjaaGreatDoor.OpR
namespace Go.Proofs.YtfkgmkcndchkjaaGreatDoor.OpR
open Go.ChangeShapes Go.WideShapes Go.ChangeAt Go.RowKit
set_option linter.unusedVariables false

/-- The two parts of a slice of props, as slices. -/
theorem slice_takeP (ao : Option Addr) (cap : Nat) (l : List PropV) (hc : l.length ≤ cap) {k : Nat} (hk : k ≤ l.length) :
    ∃ (a1 : Option Addr) (c1 : Nat) (p : List PropV), p = l.take k ∧ (∀ W, (Instr.slice 118 (.slice ao l.length cap) none (some (.int .i64 (k : Int))) none).run Tryz.prog W = .ok (.slice a1 p.length c1) W) ∧ ∀ W, PropsAt W ao l → PropsAt W a1 p := by
  have ht : Tryz.prog.underlying 118 = some (.slice (Tryz.prog.elem 118)) := by kernel_rfl
  have hs : ∀ w, (sizeOf (Tryz.prog.elem 118)).run Tryz.prog w = .ok 2 w := fun _ => by kernel_rfl
  have e1 : (l.take k).length = k := by rw [List.length_take]; omega
  refine ⟨if cap = 0 then ao else ao.map (·.add (0 * 2)), cap, _, rfl, fun W => ?_, fun W hW j hj => ?_⟩
  · rw [e1, run_slice_h W 118 ao l.length cap ht .i64 (k : Int) (by omega) (by omega), hs]
    simp [Result.andThen, sliced]
  · have hj' : j < l.length := by rw [List.length_take] at hj; omega
    obtain ⟨b, off, e, hlt, ho⟩ := hW j hj'
    refine ⟨b, off, ?_, hlt, by rw [List.getElem_take]; exact ho⟩
    rw [e]
    simp [Addr.add]
theorem slice_dropP (ao : Option Addr) (cap : Nat) (l : List PropV) (hc : l.length ≤ cap) {k : Nat} (hk : k ≤ l.length) :
    ∃ (a2 : Option Addr) (c2 : Nat) (q : List PropV), q = l.drop k ∧ (∀ W, (Instr.slice 118 (.slice ao l.length cap) (some (.int .i64 (k : Int))) none none).run Tryz.prog W = .ok (.slice a2 q.length c2) W) ∧ ∀ W, PropsAt W ao l → PropsAt W a2 q := by
  have ht : Tryz.prog.underlying 118 = some (.slice (Tryz.prog.elem 118)) := by kernel_rfl
  have hs : ∀ w, (sizeOf (Tryz.prog.elem 118)).run Tryz.prog w = .ok 2 w := fun _ => by kernel_rfl
  have e2 : (l.drop k).length = l.length - k := by rw [List.length_drop]
  refine ⟨if cap = k then ao else ao.map (·.add (k * 2)), cap - k, _, rfl, fun W => ?_, fun W hW j hj => ?_⟩
  · rw [e2, run_slice_l W 118 ao l.length cap ht .i64 (k : Int) (by omega) (by omega), hs]
    simp [Result.andThen, sliced]
  · have hj' : k + j < l.length := by rw [List.length_drop] at hj; omega
    obtain ⟨b, off, e, hlt, ho⟩ := hW (k + j) hj'
    refine ⟨b, off + k * 2, ?_, hlt, ?_⟩
    · rw [if_neg (by omega), e]
      simp [Addr.add]
    · rw [List.getElem_drop, Nat.add_assoc, ← Nat.add_mul]
      exact ho
theorem plP_eq {p : PropV} : ∀ {l : List PropV} {k : Nat}, k ≤ l.length → (∀ j (hj : j < l.length), j < k → keyLt l[j].key p.key = true) → (∀ hk : k < l.length, keyLt l[k].key p.key = false) → plP p l = k
  | [], k, hk, _, _ => by
    obtain rfl : k = 0 := by simpa using hk
    rfl
  | q :: r, 0, _, _, h2 => by
    have : keyLt q.key p.key = false := h2 (by simp)
    simp [plP, this]
  | q :: r, k + 1, hk, h1, h2 => by
    have hq : keyLt q.key p.key = true := h1 0 (by simp) (by omega)
    simp only [plP, hq, if_true]
    rw [plP_eq (l := r) (k := k) (by simpa using hk) (fun j hj hjk => h1 (j + 1) (by simpa using hj) (by omega)) (fun hk => h2 (by simpa using hk))]

set_option maxRecDepth 100000 in
set_option maxHeartbeats 1000000 in
theorem sSet_no (l : List NodG) (ao : Option Addr) (cap : Nat) (o : OpV) (base T : Nat) (w : World) (hl : l.length ≤ 150) (hT : w.heap[T]? = some (.cells #[.slice ao l.length cap] 72 (0, 0))) (hS : TreeS w base (.slice ao l.length cap) l) (hat' : atI l o.node = -1) :
    Calls Tryz.prog 100 #[.pointer (some ⟨T, 0, none⟩), o.agg] w fun e w' => (∃ v, e = .returned v) ∧ Below w.heap.size w w' := by
  have hat := fun W (hW : Below w.heap.size w W) => sAt_any l ao cap o.node W (by unfold maxLen; omega) (hS.nodesAt.stays hW)
  have hTlt := (Array.getElem?_eq_some_iff.1 hT).1
  have H1 := hide (OpB.start w o)
  have HT := hide hT
  unfold OpV.agg
  simp only [hat'] at hat
  have HAT := hide hat
  clear hS hat hT
  haveI : Nonempty (Cls fun W => OpB w W o) := ⟨⟨_, H1.out⟩⟩
  have T0 : ∀ q : (Cls fun W => OpB w W o), q.wd.cell? ⟨T, 0, none⟩ = some (.slice ao l.length cap) := fun q => (cells1 ((q.ok.below.block T hTlt).trans HT.out)).1
  have O3 : ∀ q : (Cls fun W => OpB w W o), q.wd.cell? ⟨w.heap.size, 3, none⟩ = some (.int .i64 o.node) := fun q => (cells7 q.ok.op).2.2.2.1
  go_enter Tryz.func100, Tryz.ntmps100
  go_wp2_with fail
  refine wp_region_class (ι := (Cls fun W => OpB w W o)) Cls.wd (by kernel_rfl) (by kernel_rfl) ⟨_, H1.out.drew⟩ rfl ?_
  repeat (go_big_quiet_step (first | (go_at_call 52; rename_i q; refine (HAT.out _ q.ok.below).mono ?_; rintro e w1 ⟨rfl, hw1⟩; exact ⟨rfl, ⟨w1, q.ok.step hw1⟩, rfl⟩)))
  refine wpQuiet_nil ?_
  rintro w5 ⟨q5, e5⟩
  have hV5 : OpB w w5 o := by rw [e5]; exact q5.ok
  clear e5 q5
  have HV5 := hide hV5
  clear hV5 T0 O3
  go_wp2
  (try simp only [Exit.inBlock, Exit.then])
  refine bodyPost_ret (results_none rfl _ _ _) rfl ?_
  exact ⟨⟨_, rfl⟩, HV5.out.below⟩

end Go.Proofs.YtfkgmkcndchkjaaGreatDoor.OpR
namespace Go.Proofs.YtfkgmkcndchkjaaGreatDoor.OpR
open Go.ChangeShapes Go.WideShapes Go.ChangeAt Go.RowKit
set_option linter.unusedVariables false

theorem step_append_P {ops : Array Oper} {o : Oper} {a : Act} {w : World} {K : Act → World → Prop} {Q : Exit → Act → World → Prop} {E : Prop} (hgd : o.guard = none) (s x : Operand)
    (ho : o.op = .call { callee := .builtin .append, args := #[s, x], argTypes := #[118, 118] })
    (base : Nat) (v : Value) (out : List PropV) (hs : a.eval s = v) (hown : w.ownsRow base 165 2 v out.length (flatG PropV.cells out))
    (ao : Option Addr) (m : List PropV) (c : Nat) (hx : a.eval x = .slice ao m.length c) (hA : PropsAt w ao m)
    (hlen : out.length + m.length ≤ 2200000) (hbase : base ≤ w.heap.size)
    (h : ∀ a' n' c' w', n' = (out ++ m).length → w'.ownsRow base 165 2 (.slice a' n' c') (out ++ m).length (flatG PropV.cells (out ++ m)) → w.grownBy w' v.ownBlock → K (a.put o.dst (.slice a' n' c')) w') :
    if Region.wanted o (yielded ops a.tmps) = true then Oper.wp Tryz.prog o a w K Q else E := by
  have hw : Region.wanted o (yielded ops a.tmps) = true := by simp [Region.wanted, hgd]
  rw [if_pos hw]
  obtain ⟨i0, hi, hzz⟩ := Option.map_eq_some_iff.1 infoProp
  simp only [Prod.mk.injEq] at hzz
  obtain ⟨hz0, hz1, hz2⟩ := hzz
  have hm : maxLen = 9223372036854775807 := rfl
  have hrun : ∃ v' w', (Builtin.append_ #[118, 118] o.type #[v, .slice ao m.length c]).run Tryz.prog w = .ok v' w' ∧ w'.ownsRow base 165 2 v' (out ++ m).length (flatG PropV.cells (out ++ m)) ∧ w.grownBy w' v.ownBlock := by
    cases ao with
    | some ad =>
      obtain ⟨v', w', hr, h2, h3, h4, h5⟩ := run_append_own_at (P := Tryz.prog) w base 118 o.type 165 i0 _ 2 32 Tryz.underlying118 hi hz0 hz1 hz2 rfl (by decide) v out.length (flatG PropV.cells out) hown ad m.length c (flatG PropV.cells m) (flatG_len prop_len m) hA.news (oneP m) (by omega) (by omega) hbase
      exact ⟨v', w', hr, by rw [List.length_append, flatG_app]; exact h2, h3⟩
    | none =>
      obtain rfl := hA.nil_of
      refine ⟨v, w, ?_, by rw [List.append_nil]; exact hown, ⟨rfl, rfl, rfl, Nat.le_refl _, fun _ _ _ => rfl⟩⟩
      rcases hown.2 with ⟨rfl, _⟩ | ⟨g, cap, cur, rfl, _, _, hnc, _⟩
      · simp [Builtin.append_, run_underlying Tryz.underlying118, sizeOf, typeInfo, hi, Builtin.lenOf, Builtin.firstCells]
      · simp [Builtin.append_, run_underlying Tryz.underlying118, sizeOf, typeInfo, hi, Builtin.lenOf, Builtin.firstCells, loadCells, storeCells, hnc]
  obtain ⟨v', w', hr, h2, h3⟩ := hrun
  obtain ⟨a', c', rfl, _, _⟩ := owns_atP h2
  unfold Oper.wp execOp
  simp only [ho, resolve, invoke, builtin, Sem.run_bind, Sem.run_pure, Result.andThen_ok, List.map_toArray, List.map_cons, List.map_nil, hs, hx, hr]
  exact h a' _ c' w' rfl h2 h3
end Go.Proofs.YtfkgmkcndchkjaaGreatDoor.OpR
namespace Go.Proofs.YtfkgmkcndchkjaaGreatDoor.OpR
open Go.ChangeShapes Go.WideShapes Go.ChangeAt Go.RowKit
set_option linter.unusedVariables false

theorem hasKey_at (p : PropV) : ∀ {l : List PropV}, RiseP l → hasKey l p.key = decide (l[plP p l]?.map PropV.key = some p.key)
  | [], _ => by simp [hasKey, plP]
  | q :: r, h => by
    have hr := List.pairwise_cons.1 h
    by_cases h1 : keyLt q.key p.key = true
    · have hne : q.key ≠ p.key := fun e => by rw [e, kl_irrefl] at h1; cases h1
      have e : hasKey (q :: r) p.key = hasKey r p.key := by simp [hasKey, hne]
      rw [e, hasKey_at p hr.2]
      simp [plP, h1]
    · have h1' : keyLt q.key p.key = false := by simpa using h1
      by_cases h2 : q.key = p.key
      · simp [hasKey, plP, h2, kl_irrefl]
      · have hlt : keyLt p.key q.key = true := by
          cases e : keyLt p.key q.key with
          | true => rfl
          | false => exact absurd (kl_tri h1' e) h2
        have hno : hasKey r p.key = false := by
          unfold hasKey
          rw [List.any_eq_false]
          intro x hx e
          have e' : x.key = p.key := by simpa using e
          have h3 : keyLt q.key x.key = true := hr.1 x hx
          rw [e'] at h3
          rw [kl_asymm hlt] at h3
          cases h3
        have e : hasKey (q :: r) p.key = hasKey r p.key := by simp [hasKey, h2]
        rw [e, hno]
        simp [plP, h1', h2]
theorem may_at {n : NodG} {o : OpV} (hr : RiseP n.props) {k : Nat} (hk : plP ⟨o.name, o.value⟩ n.props = k) : maySet n o = (decide (n.props[k]?.map PropV.key = some o.name) || decide (n.props.length < 20)) := by
  unfold maySet
  rw [hasKey_at ⟨o.name, o.value⟩ hr, hk]
theorem set_hit {p : PropV} {l : List PropV} {k : Nat} (hk : plP p l = k) (h : k < l.length) (he : l[k].key = p.key) : setP p l = l.take k ++ p :: l.drop (k + 1) := by
  rw [setP_at, hk, if_pos (by rw [List.getElem?_eq_getElem h]; simp [he])]
theorem set_miss {p : PropV} {l : List PropV} {k : Nat} (hk : plP p l = k) (h : ∀ h : k < l.length, l[k].key ≠ p.key) : setP p l = l.take k ++ p :: l.drop k := by
  rw [setP_at, hk, if_neg, Nat.add_zero]
  intro e
  by_cases h1 : k < l.length
  · rw [List.getElem?_eq_getElem h1] at e
    simp at e
    exact h h1 e
  · rw [List.getElem?_eq_none (by omega)] at e
    simp at e
theorem set_tree {w y : World} {l : List NodG} {g cap base B j : Nat} (hS : TreeS w base (.slice (some ⟨g, 0, none⟩) l.length cap) l) (hB : Below w.heap.size w y) (hj : j < l.length) {ps : List PropV} {a : Option Addr} {m c : Nat} (hm : m = ps.length)
    (ho : y.ownsRow B 165 2 (.slice a m c) ps.length (flatG PropV.cells ps)) (hb : w.heap.size ≤ B) (hb2 : base ≤ w.heap.size) (n : NodG) (hn : l[j] = n) :
    TreeS (y.setCell ⟨g, j * 4 + 3, none⟩ (.slice a m c)) base (.slice (some ⟨g, 0, none⟩) l.length cap) (l.set j ⟨n.id, n.parent, n.name, ps, a, c⟩) := by
  subst hm
  have hglt : g < w.heap.size := (hS.row.lt g rfl).2
  have hSy := hS.stays hB
  have hm : ∀ x ∈ l.set j ⟨n.id, n.parent, n.name, ps, a, c⟩, x ∈ l ∨ x = ⟨n.id, n.parent, n.name, ps, a, c⟩ := fun x hx => List.mem_or_eq_of_mem_set hx
  have hfar : ∀ x, a = some x → base ≤ x.block ∧ g ≠ x.block := fun x hx => by
    have := (ho.lt x.block (by rw [hx]; rfl)).1
    omega
  have hoff : ∀ x ∈ l.set j ⟨n.id, n.parent, n.name, ps, a, c⟩, x.props ≠ [] → ∀ y, x.pao = some y → base ≤ y.block ∧ g ≠ y.block := fun x hx hne z hz => by
    rcases hm x hx with hx | rfl
    · have := hS.off x hx hne z hz
      exact ⟨this.1, fun e => this.2 (by rw [← e]; rfl)⟩
    · exact hfar z hz
  refine ⟨?_, fun x hx => ?_, fun x hx hne z hz => ?_, fun x hx => ?_⟩
  · have := owns_store hSy.row (j * 4 + 3) (.slice a ps.length c)
    rw [flat_field nod_len l j 3 hj (.slice a ps.length c) ⟨n.id, n.parent, n.name, ps, a, c⟩ (by omega) (by rw [hn]; rfl)] at this
    rw [List.length_set]; exact this
  · cases hpn : x.props with
    | nil => exact props_nil _ _
    | cons p r =>
      rw [← hpn]
      refine PropsAt.set (a := ⟨g, j * 4 + 3, none⟩) ?_ (fun z hz => Ne.symm (hoff x hx (by rw [hpn]; simp) z hz).2) _
      rcases hm x hx with hx | rfl
      · exact hSy.at_ x hx
      · exact props_own ho
  · have := hoff x hx hne z hz
    exact ⟨this.1, fun e => this.2 (Option.some.inj e)⟩
  · rcases hm x hx with hx | rfl
    · exact hS.room x hx
    · rcases ho.2 with ⟨e, hn0⟩ | ⟨g', cap', cur, e, hb, hg, h1, _⟩
      · show ps.length ≤ c
        omega
      · simp only [Value.slice.injEq] at e
        obtain ⟨_, _, rfl⟩ := e
        exact h1
/-- What l03Set leaves: the prop set, where it may be; all as it was else. -/
def SetEnd (l : List NodG) (g cap : Nat) (o : OpV) (base T j : Nat) (n : NodG) (w w' : World) : Prop :=
  (maySet n o = true → w'.heap[T]? = w.heap[T]? ∧ Chg w w' base T ∧ ∃ a c, (∀ x, a = some x → w.heap.size ≤ x.block) ∧ TreeS w' base (.slice (some ⟨g, 0, none⟩) l.length cap) (l.set j ⟨n.id, n.parent, n.name, setP ⟨o.name, o.value⟩ n.props, a, c⟩)) ∧ (maySet n o = false → Below w.heap.size w w')
theorem set_no {l : List NodG} {g cap : Nat} {o : OpV} {base T j : Nat} {n : NodG} {w w' : World} (h : maySet n o = false) (hb : Below w.heap.size w w') : SetEnd l g cap o base T j n w w' := ⟨fun e => (by rw [h] at e; cases e), fun _ => hb⟩
theorem set_yes {l : List NodG} {g cap : Nat} {o : OpV} {base T j : Nat} {n : NodG} {w w' : World} (h : maySet n o = true) (hb : w'.heap[T]? = w.heap[T]? ∧ Chg w w' base T ∧ ∃ a c, (∀ x, a = some x → w.heap.size ≤ x.block) ∧ TreeS w' base (.slice (some ⟨g, 0, none⟩) l.length cap) (l.set j ⟨n.id, n.parent, n.name, setP ⟨o.name, o.value⟩ n.props, a, c⟩)) : SetEnd l g cap o base T j n w w' := ⟨fun _ => hb, fun e => (by rw [h] at e; cases e)⟩
set_option maxRecDepth 100000 in
set_option maxHeartbeats 2000000 in
theorem sSet_at (l : List NodG) (g cap : Nat) (o : OpV) (base T : Nat) (w : World) (hl : l.length ≤ 150) (hT : w.heap[T]? = some (.cells #[.slice (some ⟨g, 0, none⟩) l.length cap] 72 (0, 0))) (hS : TreeS w base (.slice (some ⟨g, 0, none⟩) l.length cap) l) (hTg : T ≠ g) (hbg : base ≤ g) (j : Nat) (hj : j < l.length) (hat' : atI l o.node = (j : Int)) (n : NodG) (hn : l[j] = n) (h20 : n.props.length ≤ 20) (hri : RiseP n.props) (hb2 : base ≤ w.heap.size) :
    Calls Tryz.prog 100 #[.pointer (some ⟨T, 0, none⟩), o.agg] w fun e w' => (∃ v, e = .returned v) ∧ SetEnd l g cap o base T j n w w' := by
  have hat := fun W (hW : Below w.heap.size w W) => sAt_any l (some ⟨g, 0, none⟩) cap o.node W (by unfold maxLen; omega) (hS.nodesAt.stays hW)
  have hTlt := (Array.getElem?_eq_some_iff.1 hT).1
  have H1 := hide (OpB.start w o)
  have HT := hide hT
  have HS := hide hS
  have HRi := hide hri
  unfold OpV.agg
  simp only [hat'] at hat
  have HAT := hide hat
  have hj0 : (0 : Int) ≤ (j : Int) := by omega
  have hj1 : (j : Int) < (l.length : Int) := by omega
  have hj2 : decide ((j : Int) < 0) = false := by simp
  clear hS hat hT hat' hri
  haveI : Nonempty (Cls fun W => OpB w W o) := ⟨⟨_, H1.out⟩⟩
  have T0 : ∀ q : (Cls fun W => OpB w W o), q.wd.cell? ⟨T, 0, none⟩ = some (.slice (some ⟨g, 0, none⟩) l.length cap) := fun q => (cells1 ((q.ok.below.block T hTlt).trans HT.out)).1
  have O3 : ∀ q : (Cls fun W => OpB w W o), q.wd.cell? ⟨w.heap.size, 3, none⟩ = some (.int .i64 o.node) := fun q => (cells7 q.ok.op).2.2.2.1
  go_enter Tryz.func100, Tryz.ntmps100
  go_wp2_with fail
  refine wp_region_class (ι := (Cls fun W => OpB w W o)) Cls.wd (by kernel_rfl) (by kernel_rfl) ⟨_, H1.out.drew⟩ rfl ?_
  repeat (go_big_quiet_step (first | (go_at_call 52; rename_i q; refine (HAT.out _ q.ok.below).mono ?_; rintro e w1 ⟨rfl, hw1⟩; exact ⟨rfl, ⟨w1, q.ok.step hw1⟩, rfl⟩)))
  refine wpQuiet_nil ?_
  rintro w5 ⟨q5, e5⟩
  have hV5 : OpB w w5 o := by rw [e5]; exact q5.ok
  clear e5 q5
  have HV5 := hide hV5
  have hS5 := HS.out.stays hV5.below
  have t0 : w5.cell? ⟨T, 0, none⟩ = some (.slice (some ⟨g, 0, none⟩) l.length cap) := (cells1 ((hV5.below.block T hTlt).trans HT.out)).1
  obtain ⟨b', off', e', _, ⟨n0, n1, n2, n3⟩, _⟩ := hS5.nodesAt j hj
  cases e'
  simp only [Nat.zero_add] at n0 n1 n2 n3
  rw [hn] at n0 n1 n2 n3
  have HPw := hide (by have := HS.out.at_ _ (List.getElem_mem hj); rw [hn] at this; exact this)
  have HRm := hide (by have := HS.out.room _ (List.getElem_mem hj); rw [hn] at this; exact this)
  have HNj := hide hn
  clear hV5 hS5 T0 O3 hn
  go_wp2_with fail
  clear t0 n0 n1 n2 n3
  go_loopw [6] (fun i wr => ∃ k : Nat, k ≤ n.props.length ∧ i = .int .i64 k ∧ (∀ i (hi : i < n.props.length), i < k → keyLt n.props[i].key o.name = true) ∧ OpB w wr o) (fun i _ => n.props.length - (intOf i).toNat)
  case atStart => exact ⟨0, by omega, rfl, fun j hj h => by omega, HV5.out⟩
  case round =>
    obtain ⟨k, hk, rfl, hlow, hV⟩ := hrel
    have HV := hide hV
    have HLow := hide hlow
    have HKL := hide hk
    obtain ⟨o0, o1, o2, o3, o4, o5, o6⟩ := cells7 hV.op
    clear hlow
    by_cases h : k < n.props.length
    · obtain ⟨b1, off1, e1, hlt1, q0, q1⟩ := (HPw.out.stays hV.below) k h
      have HE1 := hide e1
      have hi0 : (0 : Int) ≤ (k : Int) := by omega
      have hi1 : (k : Int) < (n.props.length : Int) := by omega
      rw [e1]
      clear e1 hV
      cases hlt : keyLt n.props[k].key o.name
      · have hlt' : Op.bytesLess n.props[k].key.toList o.name.toList = false := hlt
        have HPl : Hid (plP ⟨o.name, o.value⟩ n.props = k) := ⟨plP_eq HKL.out HLow.out (fun _ => hlt)⟩
        clear hlt
        go_wp2_with fail
        go_region
        obtain ⟨X, hX⟩ : ∃ X, wr.drew = X := ⟨_, rfl⟩
        have HX : Hid (OpB w X o) := ⟨by rw [← hX]; exact HV.out.drew⟩
        rw [hX]
        have hXlt := HX.out.lt
        obtain ⟨a1, c1, p, hp, hsl1, hPp⟩ := slice_takeP (some ⟨b1, off1, none⟩) n.pcap n.props HRm.out HKL.out
        have HPw' : Hid (PropsAt w (some ⟨b1, off1, none⟩) n.props) := ⟨by have := HPw.out; rwa [HE1.out] at this⟩
        have HP := hide hp
        have HPP := hide hPp
        have HLP : Hid (p.length ≤ 20) := ⟨by rw [hp, List.length_take]; omega⟩
        have HE : Hid ((X.alloc (.cells #[] 165)).ownsRow X.heap.size 165 2 (.slice (some ⟨X.heap.size, 0, none⟩) 0 0) ([] : List PropV).length (flatG PropV.cells [])) := ⟨empty_props X⟩
        clear hX hp hPp o0 o1 o2 o3 o4 o5 o6 q0 q1 hlt'
        go_wp2_with (first | (at_builtin; refine wpList_append_P rfl _ _ rfl X.heap.size (.slice (some ⟨X.heap.size, 0, none⟩) 0 0) [] rfl HE.out a1 p c1 rfl ((HPP.out X (HPw'.out.stays HX.out.below)).stays ((Below.refl _ _).alloc (Nat.le_refl _) _)) (by have := HLP.out; simp; omega) (by simp) ?_; intro v1 y1 ho1 hg1 hn1; clear hn1; simp only [List.nil_append] at ho1; have HO1 := hide ho1; have HY1 : Hid (Below X.heap.size X y1) := ⟨((Below.refl _ _).alloc (Nat.le_refl _) _).grown hg1 (by simp) (fun j hj => by simp [Value.ownBlock] at hj; omega)⟩; have HB1 := hide (HX.out.step HY1.out); clear ho1 hg1 HE hsl1; obtain ⟨o0, o1, o2, o3, o4, o5, o6⟩ := cells7 HB1.out.op) | (at_builtin; refine wpList_append_P rfl _ _ rfl X.heap.size v1 p rfl (HO1.out.alloc _) (some ⟨y1.heap.size, 0, none⟩) [⟨o.name, o.value⟩] 1 rfl (one_prop y1 ⟨o.name, o.value⟩) (by have := HLP.out; simp; omega) (by have := HY1.out.size; simp; omega) ?_; intro v2 y2 ho2 hg2 hn2; clear hn2; have HO2 := hide ho2; have HY2 : Hid (Below X.heap.size X y2) := ⟨(HY1.out.alloc HY1.out.size _).grown hg2 (by have := HY1.out.size; simp; omega) (fun j hj => (HO1.out.lt j hj).1)⟩; have HB2 := hide (HX.out.step HY2.out); clear ho2 hg2 o0 o1 o2 o3 o4 o5 o6))
        obtain ⟨o0, o1, o2, o3, o4, o5, o6⟩ := cells7 HB2.out.op
        obtain ⟨q0, q1⟩ : PropAt y2 b1 (off1 + k * 2) n.props[k] := by
          obtain ⟨b', off', e', hlt', h'⟩ := (HPw'.out.stays HB2.out.below) k h
          cases e'
          exact h'
        by_cases hek : n.props[k].key = o.name
        · have HMy : Hid (maySet n o = true) := ⟨by rw [may_at HRi.out HPl.out, List.getElem?_eq_getElem h]; simp [hek]⟩
          have hne : (n.props[k].key.toList == o.name.toList) = true := by rw [hek]; exact beq_self_eq_true _
          have HSt : Hid (setP ⟨o.name, o.value⟩ n.props = p ++ [(⟨o.name, o.value⟩ : PropV)] ++ n.props.drop (k + 1)) := ⟨by rw [set_hit HPl.out h hek, HP.out]; simp⟩
          clear hek
          go_wp2_with fail
          go_region
          clear q0 q1 o0 o1 o2 o3 o4 o5 o6 hne
          go_wp2_with fail
          obtain ⟨a2, c2, q, hq, hsl2, hPq⟩ := slice_dropP (some ⟨b1, off1, none⟩) n.pcap n.props HRm.out (k := k + 1) (by omega)
          rw [show ((k + 1 : Nat) : Int) = (k : Int) + 1 by omega] at hsl2
          have HQ := hide hq
          have HPQ := hide hPq
          have HLQ : Hid (q.length ≤ 20) := ⟨by rw [hq, List.length_drop]; omega⟩
          clear hq hPq
          have hTS : ∀ W, Below w.heap.size w W → W.cell? ⟨T, 0, none⟩ = some (.slice (some ⟨g, 0, none⟩) l.length cap) ∧ (∃ u, W.cell? ⟨g, j * 4 + 3, none⟩ = some u) ∧ W.frozen? ⟨g, j * 4 + 3, none⟩ = false := fun W hW => by
            have hS' := HS.out.stays hW
            obtain ⟨b', off', e', _, ⟨n0, n1, n2, n3⟩, _⟩ := hS'.nodesAt j hj
            cases e'
            simp only [Nat.zero_add] at n3
            exact ⟨(cells1 ((hW.block T hTlt).trans HT.out)).1, ⟨_, n3⟩, row_frozen hS'.row _⟩
          have hs0 := (hTS y2.drew.drew HB2.out.below.drew.drew).1
          have HTS := hide hTS
          have hy2 := HY2.out.size
          clear hTS
          go_region_held3 (fun w' => w'.cell? ⟨T, 0, none⟩ = some (.slice (some ⟨g, 0, none⟩) l.length cap)) (first | with_reducible exact hs0 | with_reducible exact hs1 | with_reducible exact hs2) ((refine step_append_P (by rfl) _ _ (by rfl) X.heap.size v2 (p ++ [(⟨o.name, o.value⟩ : PropV)]) (by rfl) HO2.out.drewn.drewn a2 q c2 (by rfl) ((HPQ.out _ (HPw'.out.stays HB2.out.below.drew.drew))) (by have := HLP.out; have := HLQ.out; simp; omega) HY2.out.size ?_; intro a3 n3 c3 y3 hn3 hown hgrow; have HN3 := hide hn3; have HOw := hide hown; have HY3 : Hid (Below X.heap.size X y3) := ⟨HY2.out.drew.drew.grown hgrow HY2.out.size (fun j hj => (HO2.out.lt j hj).1)⟩; have HB3 := hide (HX.out.step HY3.out); have hz3 := HTS.out y3 HB3.out.below; have hs1 := hz3.1; have hf3 := hz3.2.2; obtain ⟨u3, hu3⟩ := hz3.2.1; have hs2 : (y3.setCell ⟨g, j * 4 + 3, none⟩ (.slice a3 n3 c3)).cell? ⟨T, 0, none⟩ = some (.slice (some ⟨g, 0, none⟩) l.length cap) := (by simpa only [World.cell?, Below.heap_setCell y3 ⟨g, j * 4 + 3, none⟩ (.slice a3 n3 c3) T (show T ≠ g by omega)] using hs1); clear hn3 hown hgrow hz3))
          go_wp2
          go_end0
          refine ⟨⟨_, rfl⟩, set_yes HMy.out ⟨(Below.heap_setCell y3 ⟨g, j * 4 + 3, none⟩ (.slice a3 n3 c3) T (show T ≠ g by omega)).trans (HB3.out.below.block T hTlt), (Chg.of HB3.out.below).set (a := ⟨g, j * 4 + 3, none⟩) (.inl hbg) _, a3, c3, fun x hx => by have h1 := (HOw.out.lt x.block (by rw [hx]; rfl)).1; have h2 := HX.out.below.size; omega, ?_⟩⟩
          rw [HSt.out, ← HQ.out]
          exact set_tree HS.out HB3.out.below hj HN3.out HOw.out HX.out.below.size hb2 n HNj.out
        · have hne : (n.props[k].key.toList == o.name.toList) = false := beq_eq_false_iff_ne.2 fun e => hek (toList_inj e)
          have HSt : Hid (setP ⟨o.name, o.value⟩ n.props = p ++ [(⟨o.name, o.value⟩ : PropV)] ++ n.props.drop k) := ⟨by rw [set_miss HPl.out (fun _ => hek), HP.out]; simp⟩
          by_cases hl20 : (20 : Int) ≤ (n.props.length : Int)
          · have HMy : Hid (maySet n o = false) := ⟨by rw [may_at HRi.out HPl.out, List.getElem?_eq_getElem h]; simp [hek]; omega⟩
            clear hek HSt
            go_wp2_with fail
            go_region
            clear q0 q1 o0 o1 o2 o3 o4 o5 o6 hne
            go_wp2
            (try simp only [Exit.inBlock, Exit.then])
            refine bodyPost_ret (results_none rfl _ _ _) rfl ?_
            exact ⟨⟨_, rfl⟩, set_no HMy.out HB2.out.below.drew⟩
          · have HMy : Hid (maySet n o = true) := ⟨by rw [may_at HRi.out HPl.out, Bool.or_eq_true]; exact .inr (decide_eq_true (by omega))⟩
            clear hek
            go_wp2_with fail
            go_region
            clear q0 q1 o0 o1 o2 o3 o4 o5 o6 hne
            go_wp2_with fail
            obtain ⟨a2, c2, q, hq, hsl2, hPq⟩ := slice_dropP (some ⟨b1, off1, none⟩) n.pcap n.props HRm.out HKL.out
            have HQ := hide hq
            have HPQ := hide hPq
            have HLQ : Hid (q.length ≤ 20) := ⟨by rw [hq, List.length_drop]; omega⟩
            clear hq hPq
            have hTS : ∀ W, Below w.heap.size w W → W.cell? ⟨T, 0, none⟩ = some (.slice (some ⟨g, 0, none⟩) l.length cap) ∧ (∃ u, W.cell? ⟨g, j * 4 + 3, none⟩ = some u) ∧ W.frozen? ⟨g, j * 4 + 3, none⟩ = false := fun W hW => by
              have hS' := HS.out.stays hW
              obtain ⟨b', off', e', _, ⟨n0, n1, n2, n3⟩, _⟩ := hS'.nodesAt j hj
              cases e'
              simp only [Nat.zero_add] at n3
              exact ⟨(cells1 ((hW.block T hTlt).trans HT.out)).1, ⟨_, n3⟩, row_frozen hS'.row _⟩
            have hs0 := (hTS y2.drew.drew HB2.out.below.drew.drew).1
            have HTS := hide hTS
            have hy2 := HY2.out.size
            clear hTS
            go_region_held3 (fun w' => w'.cell? ⟨T, 0, none⟩ = some (.slice (some ⟨g, 0, none⟩) l.length cap)) (first | with_reducible exact hs0 | with_reducible exact hs1 | with_reducible exact hs2) ((refine step_append_P (by rfl) _ _ (by rfl) X.heap.size v2 (p ++ [(⟨o.name, o.value⟩ : PropV)]) (by rfl) HO2.out.drewn.drewn a2 q c2 (by rfl) ((HPQ.out _ (HPw'.out.stays HB2.out.below.drew.drew))) (by have := HLP.out; have := HLQ.out; simp; omega) HY2.out.size ?_; intro a3 n3 c3 y3 hn3 hown hgrow; have HN3 := hide hn3; have HOw := hide hown; have HY3 : Hid (Below X.heap.size X y3) := ⟨HY2.out.drew.drew.grown hgrow HY2.out.size (fun j hj => (HO2.out.lt j hj).1)⟩; have HB3 := hide (HX.out.step HY3.out); have hz3 := HTS.out y3 HB3.out.below; have hs1 := hz3.1; have hf3 := hz3.2.2; obtain ⟨u3, hu3⟩ := hz3.2.1; have hs2 : (y3.setCell ⟨g, j * 4 + 3, none⟩ (.slice a3 n3 c3)).cell? ⟨T, 0, none⟩ = some (.slice (some ⟨g, 0, none⟩) l.length cap) := (by simpa only [World.cell?, Below.heap_setCell y3 ⟨g, j * 4 + 3, none⟩ (.slice a3 n3 c3) T (show T ≠ g by omega)] using hs1); clear hn3 hown hgrow hz3))
            go_wp2
            go_end0
            refine ⟨⟨_, rfl⟩, set_yes HMy.out ⟨(Below.heap_setCell y3 ⟨g, j * 4 + 3, none⟩ (.slice a3 n3 c3) T (show T ≠ g by omega)).trans (HB3.out.below.block T hTlt), (Chg.of HB3.out.below).set (a := ⟨g, j * 4 + 3, none⟩) (.inl hbg) _, a3, c3, fun x hx => by have h1 := (HOw.out.lt x.block (by rw [hx]; rfl)).1; have h2 := HX.out.below.size; omega, ?_⟩⟩
            rw [HSt.out, ← HQ.out]
            exact set_tree HS.out HB3.out.below hj HN3.out HOw.out HX.out.below.size hb2 n HNj.out
      · have hlt' : Op.bytesLess n.props[k].key.toList o.name.toList = true := hlt
        go_wp2_with fail
        go_region
        go_wp2
        go_roundw
        case rel =>
          refine ⟨k + 1, by omega, by go_num, fun i hi hik => ?_, HV.out.drew⟩
          rcases Nat.lt_or_ge i k with h' | h'
          · exact HLow.out i hi h'
          · obtain rfl : i = k := by omega
            exact hlt
        case measure => simp [intOf]; omega
    · obtain rfl : k = n.props.length := by omega
      have HPl : Hid (plP ⟨o.name, o.value⟩ n.props = n.props.length) := ⟨plP_eq HKL.out HLow.out (fun hh => absurd hh (by omega))⟩
      clear hV
      go_wp2_with fail
      go_region
      obtain ⟨X, hX⟩ : ∃ X, wr.drew = X := ⟨_, rfl⟩
      have HX : Hid (OpB w X o) := ⟨by rw [← hX]; exact HV.out.drew⟩
      rw [hX]
      have hXlt := HX.out.lt
      obtain ⟨a1, c1, p, hp, hsl1, hPp⟩ := slice_takeP n.pao n.pcap n.props HRm.out HKL.out
      have HPw' : Hid (PropsAt w n.pao n.props) := ⟨HPw.out⟩
      have HP := hide hp
      have HPP := hide hPp
      have HLP : Hid (p.length ≤ 20) := ⟨by rw [hp, List.length_take]; omega⟩
      have HE : Hid ((X.alloc (.cells #[] 165)).ownsRow X.heap.size 165 2 (.slice (some ⟨X.heap.size, 0, none⟩) 0 0) ([] : List PropV).length (flatG PropV.cells [])) := ⟨empty_props X⟩
      clear hX hp hPp o0 o1 o2 o3 o4 o5 o6 
      go_wp2_with (first | (at_builtin; refine wpList_append_P rfl _ _ rfl X.heap.size (.slice (some ⟨X.heap.size, 0, none⟩) 0 0) [] rfl HE.out a1 p c1 rfl ((HPP.out X (HPw'.out.stays HX.out.below)).stays ((Below.refl _ _).alloc (Nat.le_refl _) _)) (by have := HLP.out; simp; omega) (by simp) ?_; intro v1 y1 ho1 hg1 hn1; clear hn1; simp only [List.nil_append] at ho1; have HO1 := hide ho1; have HY1 : Hid (Below X.heap.size X y1) := ⟨((Below.refl _ _).alloc (Nat.le_refl _) _).grown hg1 (by simp) (fun j hj => by simp [Value.ownBlock] at hj; omega)⟩; have HB1 := hide (HX.out.step HY1.out); clear ho1 hg1 HE hsl1; obtain ⟨o0, o1, o2, o3, o4, o5, o6⟩ := cells7 HB1.out.op) | (at_builtin; refine wpList_append_P rfl _ _ rfl X.heap.size v1 p rfl (HO1.out.alloc _) (some ⟨y1.heap.size, 0, none⟩) [⟨o.name, o.value⟩] 1 rfl (one_prop y1 ⟨o.name, o.value⟩) (by have := HLP.out; simp; omega) (by have := HY1.out.size; simp; omega) ?_; intro v2 y2 ho2 hg2 hn2; clear hn2; have HO2 := hide ho2; have HY2 : Hid (Below X.heap.size X y2) := ⟨(HY1.out.alloc HY1.out.size _).grown hg2 (by have := HY1.out.size; simp; omega) (fun j hj => (HO1.out.lt j hj).1)⟩; have HB2 := hide (HX.out.step HY2.out); clear ho2 hg2 o0 o1 o2 o3 o4 o5 o6))
      obtain ⟨o0, o1, o2, o3, o4, o5, o6⟩ := cells7 HB2.out.op
      have HSt : Hid (setP ⟨o.name, o.value⟩ n.props = p ++ [(⟨o.name, o.value⟩ : PropV)] ++ n.props.drop n.props.length) := ⟨by rw [set_miss HPl.out (fun hh => absurd hh (by omega)), HP.out]; simp⟩
      by_cases hl20 : (20 : Int) ≤ (n.props.length : Int)
      · have HMy : Hid (maySet n o = false) := ⟨by rw [may_at HRi.out HPl.out, List.getElem?_eq_none (Nat.le_refl _)]; simp; omega⟩
        clear HSt
        go_wp2_with fail
        go_region
        clear o0 o1 o2 o3 o4 o5 o6
        go_wp2
        (try simp only [Exit.inBlock, Exit.then])
        refine bodyPost_ret (results_none rfl _ _ _) rfl ?_
        exact ⟨⟨_, rfl⟩, set_no HMy.out HB2.out.below.drew⟩
      · have HMy : Hid (maySet n o = true) := ⟨by rw [may_at HRi.out HPl.out, Bool.or_eq_true]; exact .inr (decide_eq_true (by omega))⟩
        go_wp2_with fail
        go_region
        clear o0 o1 o2 o3 o4 o5 o6
        go_wp2_with fail
        obtain ⟨a2, c2, q, hq, hsl2, hPq⟩ := slice_dropP n.pao n.pcap n.props HRm.out HKL.out
        have HQ := hide hq
        have HPQ := hide hPq
        have HLQ : Hid (q.length ≤ 20) := ⟨by rw [hq, List.length_drop]; omega⟩
        clear hq hPq
        have hTS : ∀ W, Below w.heap.size w W → W.cell? ⟨T, 0, none⟩ = some (.slice (some ⟨g, 0, none⟩) l.length cap) ∧ (∃ u, W.cell? ⟨g, j * 4 + 3, none⟩ = some u) ∧ W.frozen? ⟨g, j * 4 + 3, none⟩ = false := fun W hW => by
          have hS' := HS.out.stays hW
          obtain ⟨b', off', e', _, ⟨n0, n1, n2, n3⟩, _⟩ := hS'.nodesAt j hj
          cases e'
          simp only [Nat.zero_add] at n3
          exact ⟨(cells1 ((hW.block T hTlt).trans HT.out)).1, ⟨_, n3⟩, row_frozen hS'.row _⟩
        have hs0 := (hTS y2.drew.drew HB2.out.below.drew.drew).1
        have HTS := hide hTS
        have hy2 := HY2.out.size
        clear hTS
        go_region_held3 (fun w' => w'.cell? ⟨T, 0, none⟩ = some (.slice (some ⟨g, 0, none⟩) l.length cap)) (first | with_reducible exact hs0 | with_reducible exact hs1 | with_reducible exact hs2) ((refine step_append_P (by rfl) _ _ (by rfl) X.heap.size v2 (p ++ [(⟨o.name, o.value⟩ : PropV)]) (by rfl) HO2.out.drewn.drewn a2 q c2 (by rfl) ((HPQ.out _ (HPw'.out.stays HB2.out.below.drew.drew))) (by have := HLP.out; have := HLQ.out; simp; omega) HY2.out.size ?_; intro a3 n3 c3 y3 hn3 hown hgrow; have HN3 := hide hn3; have HOw := hide hown; have HY3 : Hid (Below X.heap.size X y3) := ⟨HY2.out.drew.drew.grown hgrow HY2.out.size (fun j hj => (HO2.out.lt j hj).1)⟩; have HB3 := hide (HX.out.step HY3.out); have hz3 := HTS.out y3 HB3.out.below; have hs1 := hz3.1; have hf3 := hz3.2.2; obtain ⟨u3, hu3⟩ := hz3.2.1; have hs2 : (y3.setCell ⟨g, j * 4 + 3, none⟩ (.slice a3 n3 c3)).cell? ⟨T, 0, none⟩ = some (.slice (some ⟨g, 0, none⟩) l.length cap) := (by simpa only [World.cell?, Below.heap_setCell y3 ⟨g, j * 4 + 3, none⟩ (.slice a3 n3 c3) T (show T ≠ g by omega)] using hs1); clear hn3 hown hgrow hz3))
        go_wp2
        go_end0
        refine ⟨⟨_, rfl⟩, set_yes HMy.out ⟨(Below.heap_setCell y3 ⟨g, j * 4 + 3, none⟩ (.slice a3 n3 c3) T (show T ≠ g by omega)).trans (HB3.out.below.block T hTlt), (Chg.of HB3.out.below).set (a := ⟨g, j * 4 + 3, none⟩) (.inl hbg) _, a3, c3, fun x hx => by have h1 := (HOw.out.lt x.block (by rw [hx]; rfl)).1; have h2 := HX.out.below.size; omega, ?_⟩⟩
        rw [HSt.out, ← HQ.out]
        exact set_tree HS.out HB3.out.below hj HN3.out HOw.out HX.out.below.size hb2 n HNj.out
end Go.Proofs.YtfkgmkcndchkjaaGreatDoor.OpR
namespace Go.Proofs.YtfkgmkcndchkjaaGreatDoor.OpR
open Go.ChangeShapes Go.WideShapes Go.ChangeAt Go.RowKit
set_option linter.unusedVariables false

/-- What a deed done to the tree in block T leaves. -/
def DidTo (l : List NodG) (o : OpV) (base T : Nat) (w w' : World) : Prop :=
  ∃ v d, w'.heap[T]? = some (.cells #[v] 72 (0, 0)) ∧ TreeS w' base v d ∧ OffT T v d ∧ d.map NodG.bare = (tdo l o none 0).map NodG.bare ∧ Chg w w' base T
theorem sSet_any (l : List NodG) (ao : Option Addr) (cap : Nat) (o : OpV) (base T : Nat) (w : World) (ht : TreeR l) (hk : o.kind ≠ 1) (hT : w.heap[T]? = some (.cells #[.slice ao l.length cap] 72 (0, 0))) (hS : TreeS w base (.slice ao l.length cap) l) (hO : OffT T (.slice ao l.length cap) l) (hb2 : base ≤ w.heap.size) :
    Calls Tryz.prog 100 #[.pointer (some ⟨T, 0, none⟩), o.agg] w fun e w' => (∃ v, e = .returned v) ∧ DidTo l o base T w w' := by
  have hTlt := (Array.getElem?_eq_some_iff.1 hT).1
  rcases at_cases l o.node with ⟨ea, en⟩ | ⟨j, hj, ea, en, eid⟩
  · have htd : tdo l o none 0 = l := by unfold tdo; rw [if_neg hk, en]
    refine (sSet_no l ao cap o base T w ht.1 hT hS ea).mono ?_
    rintro e w' ⟨hv, hb⟩
    exact ⟨hv, _, l, (hb.block T hTlt).trans hT, hS.stays hb, hO, by rw [htd], Chg.of hb⟩
  · obtain ⟨g, hg, hgb⟩ : ∃ g, ao = some ⟨g, 0, none⟩ ∧ base ≤ g := by
      rcases hS.row.2 with ⟨e, hn⟩ | ⟨g, cap', cur, e, hb, _⟩
      · omega
      · simp only [Value.slice.injEq] at e
        exact ⟨g, e.1, hb⟩
    subst hg
    have hok := nodOk_parts (ht.2.2 l[j] (List.getElem_mem hj))
    refine (sSet_at l g cap o base T w ht.1 hT hS (fun e => hO.row (by rw [e]; rfl)) hgb j hj ea l[j] rfl hok.props.1 (rise_pair hok.props.2.2) hb2).mono ?_
    rintro e w' ⟨hv, hyes, hno⟩
    have htd : tdo l o none 0 = if maySet l[j] o then putL l (setN o l[j] none 0) else l := by unfold tdo; rw [if_neg hk, en]
    cases hm : maySet l[j] o with
    | false =>
      have hb := hno hm
      exact ⟨hv, _, l, (hb.block T hTlt).trans hT, hS.stays hb, hO, by rw [htd, hm]; rfl, Chg.of hb⟩
    | true =>
      obtain ⟨hT', hC, a, c, hfar, hS'⟩ := hyes hm
      refine ⟨hv, _, _, hT'.trans hT, hS', ⟨hO.row, fun x hx hne => ?_⟩, ?_, hC⟩
      · rcases List.mem_or_eq_of_mem_set hx with hx | rfl
        · exact hO.props x hx hne
        · intro z hz e
          have := hfar z hz
          omega
      · rw [htd, hm, if_pos rfl, putL_set ht.2.1 (n := setN o l[j] none 0) hj rfl, List.map_set, List.map_set]
        rfl
theorem Chg.since {w W w' : World} {base T : Nat} (hb : Below w.heap.size w W) (h : Chg W w' base T) : Chg w w' base T :=
  ⟨h.os.trans hb.os, h.tape.trans hb.tape, h.output.trans hb.output, Nat.le_trans hb.size h.size, fun k hk hb' hT => (h.block k (by have := hb.size; omega) hb' hT).trans (hb.block k hk)⟩
theorem DidTo.since {l : List NodG} {o : OpV} {base T : Nat} {w W w' : World} (hb : Below w.heap.size w W) (h : DidTo l o base T W w') : DidTo l o base T w w' := by
  obtain ⟨v, d, h1, h2, h3, h4, h5⟩ := h
  exact ⟨v, d, h1, h2, h3, h4, h5.since hb⟩

set_option maxRecDepth 100000 in
set_option maxHeartbeats 1000000 in
theorem sDo_any (l : List NodG) (ao : Option Addr) (cap : Nat) (o : OpV) (base T : Nat) (w : World) (ht : TreeR l) (hT : w.heap[T]? = some (.cells #[.slice ao l.length cap] 72 (0, 0))) (hS : TreeS w base (.slice ao l.length cap) l) (hO : OffT T (.slice ao l.length cap) l) (hb2 : base ≤ w.heap.size) :
    Calls Tryz.prog 73 #[.pointer (some ⟨T, 0, none⟩), o.agg] w fun e w' => (∃ v, e = .returned v) ∧ DidTo l o base T w w' := by
  have hTlt := (Array.getElem?_eq_some_iff.1 hT).1
  have H1 := hide (OpB.start w o)
  obtain ⟨o0, o1, o2, o3, o4, o5, o6⟩ := cells7 H1.out.op
  by_cases hk : o.kind = 1
  · have hmv := fun W (hW : Below w.heap.size w W) => sMove_any l ao cap o base T W ht hk ((hW.block T hTlt).trans hT) (hS.stays hW) hO (Nat.le_trans hb2 hW.size)
    unfold OpV.agg at hmv ⊢
    have HMV := hide hmv
    have b0 : (o.kind == 1) = true := beq_iff_eq.2 hk
    clear hmv hS hT hO ht hk
    go_enter Tryz.func73, Tryz.ntmps73
    go_wp2_with (first | (go_at_call 99; refine (HMV.out _ H1.out.below).mono ?_; rintro e w1 ⟨⟨v1, rfl⟩, hd1⟩; have HD : Hid (DidTo l o base T _ w1) := ⟨hd1⟩; clear hd1))
    go_end0
    exact ⟨⟨_, rfl⟩, HD.out.since H1.out.below⟩
  · have hmv := fun W (hW : Below w.heap.size w W) => sSet_any l ao cap o base T W ht hk ((hW.block T hTlt).trans hT) (hS.stays hW) hO (Nat.le_trans hb2 hW.size)
    unfold OpV.agg at hmv ⊢
    have HMV := hide hmv
    have b0 : (o.kind == 1) = false := beq_eq_false_iff_ne.2 hk
    clear hmv hS hT hO ht hk
    go_enter Tryz.func73, Tryz.ntmps73
    go_wp2_with (first | (go_at_call 100; refine (HMV.out _ H1.out.below).mono ?_; rintro e w1 ⟨⟨v1, rfl⟩, hd1⟩; have HD := hide hd1; clear hd1))
    go_end0
    exact ⟨⟨_, rfl⟩, HD.out.since H1.out.below⟩

theorem TreeS.moved {w w' : World} {base : Nat} {v : Value} {l : List NodG} (h : TreeS w base v l) (he : ∀ g, base ≤ g → w'.heap[g]? = w.heap[g]?) : TreeS w' base v l := by
  refine ⟨owns_moved h.row he, fun n hn => ?_, h.off, h.room⟩
  intro j hj
  obtain ⟨b, off, e, hlt, ho⟩ := h.at_ n hn j hj
  have hb := (h.off n hn (fun e => by rw [e] at hj; simp at hj) _ e).1
  have hq := he b hb
  refine ⟨b, off, e, ?_, ho.block hq⟩
  have := Array.getElem?_eq_getElem hlt
  rw [this] at hq
  exact (Array.getElem?_eq_some_iff.1 hq).1
theorem TreeS.lower {w : World} {base base' : Nat} {v : Value} {l : List NodG} (h : TreeS w base v l) (hb : base' ≤ base) : TreeS w base' v l :=
  ⟨owns_lower h.row hb, h.at_, fun n hn hne x hx => ⟨Nat.le_trans hb (h.off n hn hne x hx).1, (h.off n hn hne x hx).2⟩, h.room⟩
theorem TreeS.offNew {w : World} {base T : Nat} {v : Value} {l : List NodG} (h : TreeS w base v l) (hT : w.heap.size ≤ T) : OffT T v l :=
  ⟨fun e => by have := (h.row.lt T e).2; omega, fun n hn hne x hx e => by
    obtain ⟨b, off, e', hlt, _⟩ := h.at_ n hn 0 (List.length_pos_iff.2 hne)
    rw [hx] at e'
    cases e'
    simp at e
    omega⟩
theorem DoB.chg {w c c' : World} {sv rv : Value} {o : OpV} {base T : Nat} (h : DoB w c sv rv o) (hb : w.heap.size + 1 + 1 < base) (hT : w.heap.size + 1 + 1 < T) (hc : Chg c c' base T) : DoB w c' sv rv o :=
  have hl := h.lt
  have hs := h.below.size
  ⟨⟨hc.os.trans h.below.os, hc.tape.trans h.below.tape, hc.output.trans h.below.output, Nat.le_trans hs hc.size, fun k hk => (hc.block k (by omega) (by omega) (by omega)).trans (h.below.block k hk)⟩, (hc.block _ (by omega) (by omega) (by omega)).trans h.tv, (hc.block _ (by omega) (by omega) (by omega)).trans h.op, (hc.block _ (by omega) (by omega) (by omega)).trans h.rv⟩
theorem DoB.finS {w w4 : World} {sv rv v : Value} {o : OpV} {d : List NodG} {base : Nat} (h4 : DoB w w4 sv rv o) (hb : w.heap.size + 1 + 1 < base) (ht : TreeS w4 base v d) (x : Value) :
    TreeS (w4.setCell ⟨w.heap.size + 1 + 1, 0, none⟩ x) w.heap.size v d ∧ Below w.heap.size w (w4.setCell ⟨w.heap.size + 1 + 1, 0, none⟩ x) := by
  refine ⟨(ht.moved (fun g hg => ?_)).lower (by omega), h4.below.setCell (p := ⟨w.heap.size + 1 + 1, 0, none⟩) (show w.heap.size ≤ w.heap.size + 1 + 1 by omega) _⟩
  exact Below.heap_setCell _ _ _ _ (by simp; omega)

end Go.Proofs.YtfkgmkcndchkjaaGreatDoor.OpR
namespace Go.Proofs.YtfkgmkcndchkjaaGreatDoor.OpR
open Go.ChangeShapes Go.WideShapes Go.ChangeAt Go.RowKit
set_option linter.unusedVariables false

/-- Between two deeds: the answer's variable, the tree's, the tree. -/
structure OfB (w c : World) (v : Value) (d : List NodG) : Prop where
  below : Below w.heap.size w c
  rv : c.heap[w.heap.size]? = some (.cells #[.slice none 0 0] 72 (0, 0))
  tv : c.heap[w.heap.size + 1]? = some (.cells #[v] 72 (0, 0))
  tree : TreeS c (w.heap.size + 1 + 1) v d
  off : OffT (w.heap.size + 1) v d
theorem OfB.lt {w c : World} {v : Value} {d : List NodG} (h : OfB w c v d) : w.heap.size + 1 < c.heap.size := (Array.getElem?_eq_some_iff.1 h.tv).1
theorem OfB.start (w : World) : OfB w ((w.alloc (.cells #[.slice none 0 0] 72)).alloc (.cells #[.slice none 0 0] 72)) (.slice none 0 0) [] :=
  ⟨((Below.refl _ _).alloc (Nat.le_refl _) _).alloc (by simp) _, by rw [Below.heap_alloc _ _ _ (by simp)]; exact heap_alloc_new w _, last2 _ _ _, (tree_own_nil _ _).toS, ⟨by simp [Value.ownBlock], fun n hn => absurd hn (by simp)⟩⟩
theorem OfB.step {w c c' : World} {v : Value} {d : List NodG} (h : OfB w c v d) (hb : Below c.heap.size c c') : OfB w c' v d :=
  have hl := h.lt
  ⟨h.below.trans (hb.mono h.below.size), (hb.block _ (by omega)).trans h.rv, (hb.block _ (by omega)).trans h.tv, h.tree.stays hb, h.off⟩
theorem OfB.did {w c c' : World} {v : Value} {d : List NodG} {o : OpV} (h : OfB w c v d) (hd : DidTo d o (w.heap.size + 1 + 1) (w.heap.size + 1) c c') : ∃ v' d', OfB w c' v' d' ∧ d'.map NodG.bare = (tdo d o none 0).map NodG.bare := by
  obtain ⟨v', d', h1, h2, h3, h4, hc⟩ := hd
  have hl := h.lt
  have hs := h.below.size
  exact ⟨v', d', ⟨⟨hc.os.trans h.below.os, hc.tape.trans h.below.tape, hc.output.trans h.below.output, Nat.le_trans hs hc.size, fun k hk => (hc.block k (by omega) (by omega) (by omega)).trans (h.below.block k hk)⟩, (hc.block _ (by omega) (by omega) (by omega)).trans h.rv, h1, h2, h3⟩, h4⟩
set_option maxRecDepth 100000 in
set_option maxHeartbeats 1000000 in
theorem sOf_any (l : List OpV) (ao : Option Addr) (cap : Nat) (w : World) (hl : l.length ≤ 150) (hA : OpsAt w ao l) (hR : ∀ i (h : i < l.length), opRight l[i] = true) :
    Calls Tryz.prog 43 #[.slice ao l.length cap] w fun e w' => ∃ v d, e = .returned (.agg #[v]) ∧ TreeS w' w.heap.size v d ∧ d.map NodG.bare = (tof l).map NodG.bare ∧ Below w.heap.size w w' := by
  have HA := hide hA
  have HR := hide hR
  have H0 := hide (OfB.start w)
  clear hA hR
  go_enter Tryz.func43, Tryz.ntmps43
  go_wp2
  go_loopw [4] (fun i wr => ∃ (k : Nat) (v : Value) (d : List NodG), k ≤ l.length ∧ i = .int .i64 k ∧ d.map NodG.bare = (tof (l.take k)).map NodG.bare ∧ OfB w wr v d) (fun i _ => l.length - (intOf i).toNat)
  case atStart => exact ⟨0, _, [], by omega, rfl, rfl, H0.out⟩
  case round =>
    obtain ⟨k, v, d, hk, rfl, hd, hV⟩ := hrel
    have HV := hide hV
    have HD := hide hd
    obtain ⟨a1, c1, rfl, _, _⟩ := owns_atN hV.tree.row
    by_cases h : k < l.length
    · obtain ⟨b, off, rfl, hlt, ho⟩ := HA.out k h
      obtain ⟨c0, c1', c2, c3, c4, c5, c6⟩ := ho.block (w' := wr) (hV.below.block b hlt)
      have hi0 : (0 : Int) ≤ (k : Int) := by omega
      have hi1 : (k : Int) < (l.length : Int) := by omega
      have hTd : TreeR d := (treeR_iff d).1 (by rw [tree_alike hd]; exact tree_yes (tof_right HR.out k (by omega)))
      have hdo := sDo_any d a1 c1 l[k] (w.heap.size + 1 + 1) (w.heap.size + 1) wr hTd hV.tv hV.tree hV.off (by have := hV.lt; omega)
      unfold OpV.agg at hdo
      have HDO := hide hdo
      clear ho hV hd hdo hTd
      go_wp2_with (first | (go_at_call 73; refine HDO.out.mono ?_; rintro e w4 ⟨⟨v4, rfl⟩, hd4⟩; have HD4 := hide hd4; clear hd4))
      obtain ⟨v', d', hB', hd'⟩ := HV.out.did HD4.out
      go_roundw
      case rel => exact ⟨k + 1, v', d', by omega, by go_num, by rw [hd', tof_take h]; exact tdo_alike HD.out _ _ _ _ _, hB'⟩
      case measure => simp [intOf]; omega
    · obtain rfl : k = l.length := by omega
      have t0 := (cells1 hV.tv).1
      have r0 := (cells1 hV.rv).1
      have r1 := (cells1 hV.rv).2
      have HF : Hid (d.map NodG.bare = (tof l).map NodG.bare) := ⟨by rw [List.take_length] at hd; exact hd⟩
      clear hV hd
      go_wp2
      refine bodyPost_ret (v := .agg #[.slice a1 d.length c1]) (by simp [results, Tryz.results43, go_sem, r0]) rfl ⟨_, d, rfl, (HV.out.tree.moved (fun g hg => ?_)).lower (by omega), HF.out, HV.out.below.setCell (p := ⟨w.heap.size, 0, none⟩) (Nat.le_refl _) _⟩
      exact Below.heap_setCell _ _ _ _ (by simp; omega)
end Go.Proofs.YtfkgmkcndchkjaaGreatDoor.OpR
namespace Go.Proofs.YtfkgmkcndchkjaaGreatDoor.OpR
open Go.ChangeShapes Go.WideShapes Go.ChangeAt Go.RowKit
set_option linter.unusedVariables false

theorem tree_of_tof {l : List OpV} (hl : logRight l = true) {d : List NodG} (h : d.map NodG.bare = (tof l).map NodG.bare) : TreeR d := by
  refine (treeR_iff d).1 ?_
  rw [tree_alike h, treeR_iff]
  have := tof_right ((log_iff l).1 hl).1 l.length (Nat.le_refl _)
  rwa [List.take_length] at this
theorem op7c {W : World} {g : Nat} {T : TypeId} {v0 v1 v2 v3 v4 v5 v6 : Value} (h : W.heap[g]? = some (.cells #[v0, v1, v2, v3, v4, v5, v6] T (0, 0))) : W.cell? ⟨g, 0, none⟩ = some v0 ∧ W.cell? ⟨g, 1, none⟩ = some v1 ∧ W.cell? ⟨g, 2, none⟩ = some v2 ∧ W.cell? ⟨g, 3, none⟩ = some v3 ∧ W.cell? ⟨g, 4, none⟩ = some v4 ∧ W.cell? ⟨g, 5, none⟩ = some v5 ∧ W.cell? ⟨g, 6, none⟩ = some v6 := by
  refine ⟨?_, ?_, ?_, ?_, ?_, ?_, ?_⟩ <;> simp [World.cell?, h]
theorem atI_neg (l : List NodG) (x : Int) : decide (atI l x < 0) = !(nodOf l x).isSome := by
  unfold atI nodOf
  cases h : l.findIdx? (fun n => decide (n.id = x)) with
  | none =>
    have h2 : l.find? (fun n => decide (n.id = x)) = none := by
      rw [List.find?_eq_none]
      rw [List.findIdx?_eq_none_iff] at h
      intro n hn
      have := h n hn
      simpa using this
    rw [h2]
    rfl
  | some k =>
    obtain ⟨hk, hp, _⟩ := List.findIdx?_eq_some_iff_getElem.1 h
    have h2 : (l.find? (fun n => decide (n.id = x))).isSome = true := List.find?_isSome.2 ⟨l[k], List.getElem_mem hk, hp⟩
    rw [h2]
    simp
end Go.Proofs.YtfkgmkcndchkjaaGreatDoor.OpR
namespace Go.Proofs.YtfkgmkcndchkjaaGreatDoor.OpR
open Go.ChangeShapes Go.WideShapes Go.ChangeAt Go.RowKit
set_option linter.unusedVariables false

set_option maxRecDepth 100000 in
set_option maxHeartbeats 1000000 in
theorem smv_size1 (c : CliV) (la oa : Option Addr) (lc oc : Nat) (x p : Int) (nm : ByteArray) (w : World) (hz : CSz maxLen c) (hA : OpsAt w la c.log) (hC : OpsAt w oa c.out) (hnm : nm.size ≤ maxLen) (h1 : 8000 < nm.size) : Calls Tryz.prog 10 #[c.agg la lc oa oc, .int .i64 x, .int .i64 p, .string nm] w fun e w' => STold w w' e (OutV.ill 2) := by
  have hr := fun W (hW : Below w.heap.size w W) => sRight_any c la oa lc oc W hz (hA.stays hW) (hC.stays hW)
  have HIL := hide sIll_any
  have hB0 := FB.start w c la lc oa oc
  have HB0 := hide hB0
  obtain ⟨p0, p1, p2, p3, p4, p5⟩ := hB0.cli.cells
  have d1 : decide (8000 < nm.size) = true := by simpa using h1
  have d1' : decide ((8000 : Int) < (nm.size : Int)) = true := by simpa using (show (8000 : Int) < (nm.size : Int) by omega)
  unfold CliV.agg at *
  clear hr hB0 hA hC hz
  go_enter Tryz.func10, Tryz.ntmps10
  go_wp2_with (first | (go_at_call 39; (refine (HIL.out _ _).mono ?_); rintro e w9 ⟨rfl, hb9⟩; have HB9 := hide (HB0.out.step hb9); clear p0 p1 p2 p3 p4 p5 hb9; obtain ⟨r0, r1, r2, r3, r4, r5, r6, r7, r8, r9, r10, r11, r12, r13, r14, fr⟩ := fif HB9.out.res) | fail)
  refine bodyPost_ret (v := .agg #[.int .i64 0, .int .i64 0, .slice none 0 0, .int .i64 0, .slice none 0 0, .int .i64 0, .int .i64 0, .int .i64 0, .int .i64 0, .int .i64 0, .int .i64 0, .string ⟨#[]⟩, .string ⟨#[]⟩, .int .i64 0, .int .i64 2]) (by simp [results, Tryz.results10, go_sem, r0, r1, r2, r3, r4, r5, r6, r7, r8, r9, r10, r11, r12, r13, r14]) rfl (STold.ill (below15 HB9.out.cli.2 (by omega) _ _ _ _ _ _ _ _ _ _ _ _ _ _ _))
set_option maxRecDepth 100000 in
set_option maxHeartbeats 1000000 in
theorem smv_form (c : CliV) (la oa : Option Addr) (lc oc : Nat) (x p : Int) (nm : ByteArray) (w : World) (hz : CSz maxLen c) (hA : OpsAt w la c.log) (hC : OpsAt w oa c.out) (hnm : nm.size ≤ maxLen) (h0 : ¬ 8000 < nm.size) (hcr : cliRight c = false) : Calls Tryz.prog 10 #[c.agg la lc oa oc, .int .i64 x, .int .i64 p, .string nm] w fun e w' => STold w w' e (OutV.ill 1) := by
  have hr := fun W (hW : Below w.heap.size w W) => sRight_any c la oa lc oc W hz (hA.stays hW) (hC.stays hW)
  have HIL := hide sIll_any
  have hB0 := FB.start w c la lc oa oc
  have HB0 := hide hB0
  obtain ⟨p0, p1, p2, p3, p4, p5⟩ := hB0.cli.cells
  have d0 : decide (8000 < nm.size) = false := by simpa using h0
  have d0' : decide ((8000 : Int) < (nm.size : Int)) = false := by simpa using (show ¬ (8000 : Int) < (nm.size : Int) by omega)
  rw [hcr] at hr
  have HR := hide hr
  unfold CliV.agg at *
  clear hr hB0 hA hC hz hcr
  go_enter Tryz.func10, Tryz.ntmps10
  go_wp2_with (first | (go_at_call 40; (refine (HR.out _ HB0.out.cli.2).mono ?_); rintro e w1 ⟨rfl, hb1⟩; have HB1 := hide (HB0.out.step hb1); clear p0 p1 p2 p3 p4 p5 hb1; obtain ⟨p0, p1, p2, p3, p4, p5⟩ := HB1.out.cli.cells) | (go_at_call 39; (refine (HIL.out _ _).mono ?_); rintro e w9 ⟨rfl, hb9⟩; have HB9 := hide (HB1.out.step hb9); clear p0 p1 p2 p3 p4 p5 hb9; obtain ⟨r0, r1, r2, r3, r4, r5, r6, r7, r8, r9, r10, r11, r12, r13, r14, fr⟩ := fif HB9.out.res) | fail)
  refine bodyPost_ret (v := .agg #[.int .i64 0, .int .i64 0, .slice none 0 0, .int .i64 0, .slice none 0 0, .int .i64 0, .int .i64 0, .int .i64 0, .int .i64 0, .int .i64 0, .int .i64 0, .string ⟨#[]⟩, .string ⟨#[]⟩, .int .i64 0, .int .i64 1]) (by simp [results, Tryz.results10, go_sem, r0, r1, r2, r3, r4, r5, r6, r7, r8, r9, r10, r11, r12, r13, r14]) rfl (STold.ill (below15 HB9.out.cli.2 (by omega) _ _ _ _ _ _ _ _ _ _ _ _ _ _ _))
set_option maxRecDepth 100000 in
set_option maxHeartbeats 1000000 in
theorem smv_time (c : CliV) (la oa : Option Addr) (lc oc : Nat) (x p : Int) (nm : ByteArray) (w : World) (hz : CSz maxLen c) (hA : OpsAt w la c.log) (hC : OpsAt w oa c.out) (hnm : nm.size ≤ maxLen) (h0 : ¬ 8000 < nm.size) (hcr : cliRight c = true) (ht : 1000000 ≤ c.clock) : Calls Tryz.prog 10 #[c.agg la lc oa oc, .int .i64 x, .int .i64 p, .string nm] w fun e w' => STold w w' e (OutV.ill 9) := by
  have hr := fun W (hW : Below w.heap.size w W) => sRight_any c la oa lc oc W hz (hA.stays hW) (hC.stays hW)
  have HIL := hide sIll_any
  have hB0 := FB.start w c la lc oa oc
  have HB0 := hide hB0
  obtain ⟨p0, p1, p2, p3, p4, p5⟩ := hB0.cli.cells
  have d0 : decide (8000 < nm.size) = false := by simpa using h0
  have d0' : decide ((8000 : Int) < (nm.size : Int)) = false := by simpa using (show ¬ (8000 : Int) < (nm.size : Int) by omega)
  rw [hcr] at hr
  have HR := hide hr
  have dt : decide (1000000 ≤ c.clock) = true := by simpa using ht
  unfold CliV.agg at *
  clear hr hB0 hA hC hz hcr ht
  go_enter Tryz.func10, Tryz.ntmps10
  go_wp2_with (first | (go_at_call 40; (refine (HR.out _ HB0.out.cli.2).mono ?_); rintro e w1 ⟨rfl, hb1⟩; have HB1 := hide (HB0.out.step hb1); clear p0 p1 p2 p3 p4 p5 hb1; obtain ⟨p0, p1, p2, p3, p4, p5⟩ := HB1.out.cli.cells) | (go_at_call 39; (refine (HIL.out _ _).mono ?_); rintro e w9 ⟨rfl, hb9⟩; have HB9 := hide (HB1.out.step hb9); clear p0 p1 p2 p3 p4 p5 hb9; obtain ⟨r0, r1, r2, r3, r4, r5, r6, r7, r8, r9, r10, r11, r12, r13, r14, fr⟩ := fif HB9.out.res) | fail)
  refine bodyPost_ret (v := .agg #[.int .i64 0, .int .i64 0, .slice none 0 0, .int .i64 0, .slice none 0 0, .int .i64 0, .int .i64 0, .int .i64 0, .int .i64 0, .int .i64 0, .int .i64 0, .string ⟨#[]⟩, .string ⟨#[]⟩, .int .i64 0, .int .i64 9]) (by simp [results, Tryz.results10, go_sem, r0, r1, r2, r3, r4, r5, r6, r7, r8, r9, r10, r11, r12, r13, r14]) rfl (STold.ill (below15 HB9.out.cli.2 (by omega) _ _ _ _ _ _ _ _ _ _ _ _ _ _ _))
set_option maxRecDepth 100000 in
set_option maxHeartbeats 1000000 in
theorem smv_wrong (c : CliV) (la oa : Option Addr) (lc oc : Nat) (x p : Int) (nm : ByteArray) (w : World) (hz : CSz maxLen c) (hA : OpsAt w la c.log) (hC : OpsAt w oa c.out) (hnm : nm.size ≤ maxLen) (h0 : ¬ 8000 < nm.size) (hcr : cliRight c = true) (ht : ¬ 1000000 ≤ c.clock) (hop : opRight ⟨c.clock + 1, c.repl, 1, x, p, nm, ⟨#[]⟩⟩ = false) : Calls Tryz.prog 10 #[c.agg la lc oa oc, .int .i64 x, .int .i64 p, .string nm] w fun e w' => STold w w' e (OutV.ill 1) := by
  have hr := fun W (hW : Below w.heap.size w W) => sRight_any c la oa lc oc W hz (hA.stays hW) (hC.stays hW)
  have HIL := hide sIll_any
  have hB0 := FB.start w c la lc oa oc
  have HB0 := hide hB0
  obtain ⟨p0, p1, p2, p3, p4, p5⟩ := hB0.cli.cells
  have d0 : decide (8000 < nm.size) = false := by simpa using h0
  have d0' : decide ((8000 : Int) < (nm.size : Int)) = false := by simpa using (show ¬ (8000 : Int) < (nm.size : Int) by omega)
  obtain ⟨T9, hT9⟩ : ∃ T9, T9 = c.clock + 1 := ⟨_, rfl⟩
  have hR := (cliR_iff c).1 hcr
  have hlg := log_yes hR.log
  have hl150 := hR.log.2.1
  have ho30 := hR.few
  have hk0 := hR.clock
  have HT9 := hide hT9
  have hwk : wrap64 (c.clock + 1) = T9 := by unfold wrap64; omega
  have hwk2 : IntKind.i64.wrap (c.clock + 1) = T9 := by rw [IntKind.wrap_i64]; omega
  have dt : decide (1000000 ≤ c.clock) = false := by simpa using ht
  have hso := fun W => sOp_any ⟨T9, c.repl, 1, x, p, nm, ⟨#[]⟩⟩ W hnm (by show (0 : Nat) ≤ maxLen; omega)
  dsimp only [OpV.agg] at hso
  rw [hcr] at hr
  rw [← hT9] at hop
  rw [hop] at hso
  have HR := hide hr
  have HO := hide hso
  unfold CliV.agg at *
  clear hr hso hB0 hA hC hz hcr ht hop hT9 hR hlg hl150 ho30 hk0
  go_enter Tryz.func10, Tryz.ntmps10
  go_wp2_with (first | (go_at_call 40; (refine (HR.out _ HB0.out.cli.2).mono ?_); rintro e w1 ⟨rfl, hb1⟩; have HB1 := hide (HB0.out.step hb1); clear p0 p1 p2 p3 p4 p5 hb1; obtain ⟨p0, p1, p2, p3, p4, p5⟩ := HB1.out.cli.cells) | (go_at_call 41; (refine (HO.out _).mono ?_); rintro e w2 ⟨rfl, hb2⟩; have hal := (Below.refl w1.heap.size w1).alloc (Nat.le_refl _) (.cells #[.int .i64 T9, .int .i64 c.repl, .int .i64 1, .int .i64 x, .int .i64 p, .string nm, .string ⟨#[]⟩] 30); have HB2 := hide ((HB1.out.step hal).step hb2); have HP2 := hide ((hb2.block w1.heap.size (by simp)).trans (heap_alloc_new w1 (.cells #[.int .i64 T9, .int .i64 c.repl, .int .i64 1, .int .i64 x, .int .i64 p, .string nm, .string ⟨#[]⟩] 30))); clear p0 p1 p2 p3 p4 p5 hb2 hal; obtain ⟨p0, p1, p2, p3, p4, p5⟩ := HB2.out.cli.cells; obtain ⟨q0, q1, q2, q3, q4, q5, q6⟩ := op7c HP2.out) | (go_at_call 39; (refine (HIL.out _ _).mono ?_); rintro e w9 ⟨rfl, hb9⟩; have HB9 := hide (HB2.out.step hb9); clear p0 p1 p2 p3 p4 p5 q0 q1 q2 q3 q4 q5 q6 hb9; obtain ⟨r0, r1, r2, r3, r4, r5, r6, r7, r8, r9, r10, r11, r12, r13, r14, fr⟩ := fif HB9.out.res) | fail)
  refine bodyPost_ret (v := .agg #[.int .i64 0, .int .i64 0, .slice none 0 0, .int .i64 0, .slice none 0 0, .int .i64 0, .int .i64 0, .int .i64 0, .int .i64 0, .int .i64 0, .int .i64 0, .string ⟨#[]⟩, .string ⟨#[]⟩, .int .i64 0, .int .i64 1]) (by simp [results, Tryz.results10, go_sem, r0, r1, r2, r3, r4, r5, r6, r7, r8, r9, r10, r11, r12, r13, r14]) rfl (STold.ill (below15 HB9.out.cli.2 (by omega) _ _ _ _ _ _ _ _ _ _ _ _ _ _ _))
set_option maxRecDepth 100000 in
set_option maxHeartbeats 1000000 in
theorem smv_place (c : CliV) (la oa : Option Addr) (lc oc : Nat) (x p : Int) (nm : ByteArray) (w : World) (hz : CSz maxLen c) (hA : OpsAt w la c.log) (hC : OpsAt w oa c.out) (hnm : nm.size ≤ maxLen) (h0 : ¬ 8000 < nm.size) (hcr : cliRight c = true) (ht : ¬ 1000000 ≤ c.clock) (hop : opRight ⟨c.clock + 1, c.repl, 1, x, p, nm, ⟨#[]⟩⟩ = true) (CD : Int) (hcd : mayCode (tof c.log) x p = CD) (hc0 : CD ≠ 0) : Calls Tryz.prog 10 #[c.agg la lc oa oc, .int .i64 x, .int .i64 p, .string nm] w fun e w' => STold w w' e (OutV.ill CD) := by
  have hr := fun W (hW : Below w.heap.size w W) => sRight_any c la oa lc oc W hz (hA.stays hW) (hC.stays hW)
  have HIL := hide sIll_any
  have hB0 := FB.start w c la lc oa oc
  have HB0 := hide hB0
  obtain ⟨p0, p1, p2, p3, p4, p5⟩ := hB0.cli.cells
  have d0 : decide (8000 < nm.size) = false := by simpa using h0
  have d0' : decide ((8000 : Int) < (nm.size : Int)) = false := by simpa using (show ¬ (8000 : Int) < (nm.size : Int) by omega)
  obtain ⟨T9, hT9⟩ : ∃ T9, T9 = c.clock + 1 := ⟨_, rfl⟩
  have hR := (cliR_iff c).1 hcr
  have hlg := log_yes hR.log
  have hl150 := hR.log.2.1
  have ho30 := hR.few
  have hk0 := hR.clock
  have HT9 := hide hT9
  have hwk : wrap64 (c.clock + 1) = T9 := by unfold wrap64; omega
  have hwk2 : IntKind.i64.wrap (c.clock + 1) = T9 := by rw [IntKind.wrap_i64]; omega
  have dt : decide (1000000 ≤ c.clock) = false := by simpa using ht
  have hso := fun W => sOp_any ⟨T9, c.repl, 1, x, p, nm, ⟨#[]⟩⟩ W hnm (by show (0 : Nat) ≤ maxLen; omega)
  dsimp only [OpV.agg] at hso
  rw [hcr] at hr
  rw [← hT9] at hop
  rw [hop] at hso
  have hof := fun W (hW : Below w.heap.size w W) => sOf_any c.log la lc W hl150 (hA.stays hW) hR.log.1
  have HOF := hide hof
  have HLg := hide hlg
  have HCD := hide hcd
  have c0 : (CD == 0) = false := by simpa using hc0
  have c1' : (CD != 0) = true := by simpa using hc0
  have HR := hide hr
  have HO := hide hso
  unfold CliV.agg at *
  clear hr hso hof hB0 hA hC hz hcr ht hop hT9 hR hlg hl150 ho30 hk0 hcd hc0
  go_enter Tryz.func10, Tryz.ntmps10
  go_wp2_with (first | (go_at_call 40; (refine (HR.out _ HB0.out.cli.2).mono ?_); rintro e w1 ⟨rfl, hb1⟩; have HB1 := hide (HB0.out.step hb1); clear p0 p1 p2 p3 p4 p5 hb1; obtain ⟨p0, p1, p2, p3, p4, p5⟩ := HB1.out.cli.cells) | (go_at_call 41; (refine (HO.out _).mono ?_); rintro e w2 ⟨rfl, hb2⟩; have hal := (Below.refl w1.heap.size w1).alloc (Nat.le_refl _) (.cells #[.int .i64 T9, .int .i64 c.repl, .int .i64 1, .int .i64 x, .int .i64 p, .string nm, .string ⟨#[]⟩] 30); have HB2 := hide ((HB1.out.step hal).step hb2); have HP2 := hide ((hb2.block w1.heap.size (by simp)).trans (heap_alloc_new w1 (.cells #[.int .i64 T9, .int .i64 c.repl, .int .i64 1, .int .i64 x, .int .i64 p, .string nm, .string ⟨#[]⟩] 30))); clear p0 p1 p2 p3 p4 p5 hb2 hal; obtain ⟨p0, p1, p2, p3, p4, p5⟩ := HB2.out.cli.cells; obtain ⟨q0, q1, q2, q3, q4, q5, q6⟩ := op7c HP2.out) | (go_at_call 43; (refine (HOF.out _ HB2.out.cli.2).mono ?_); rintro e w3 ⟨v, dd, rfl, hts, hdb, hb3⟩; obtain ⟨ao1, c1, rfl, hc1, _⟩ := owns_atN hts.row; have HB3 := hide (HB2.out.step hb3); have HTn := hide hts.nodesAt; have HDb := hide hdb; have HTR := hide (tree_of_tof HLg.out hdb); have HP3 := hide ((hb3.block _ (Array.getElem?_eq_some_iff.1 HP2.out).1).trans HP2.out); clear p0 p1 p2 p3 p4 p5 q0 q1 q2 q3 q4 q5 q6 hts hdb hb3 hc1; obtain ⟨p0, p1, p2, p3, p4, p5⟩ := HB3.out.cli.cells; obtain ⟨q0, q1, q2, q3, q4, q5, q6⟩ := op7c HP3.out) | (go_at_call 42; have hmy := sMay_any dd ao1 c1 x p w3 HTR.out HTn.out; rw [(may_alike HDb.out x p).trans HCD.out] at hmy; (refine hmy.mono ?_); rintro e w4 ⟨rfl, hb4⟩; have HB4 := hide (HB3.out.step hb4); have HP4 := hide ((hb4.block _ (Array.getElem?_eq_some_iff.1 HP3.out).1).trans HP3.out); clear p0 p1 p2 p3 p4 p5 q0 q1 q2 q3 q4 q5 q6 hb4 hmy; obtain ⟨p0, p1, p2, p3, p4, p5⟩ := HB4.out.cli.cells; obtain ⟨q0, q1, q2, q3, q4, q5, q6⟩ := op7c HP4.out) | (go_at_call 39; (refine (HIL.out _ _).mono ?_); rintro e w9 ⟨rfl, hb9⟩; have HB9 := hide (HB4.out.step hb9); clear p0 p1 p2 p3 p4 p5 q0 q1 q2 q3 q4 q5 q6 hb9; obtain ⟨r0, r1, r2, r3, r4, r5, r6, r7, r8, r9, r10, r11, r12, r13, r14, fr⟩ := fif HB9.out.res) | fail)
  refine bodyPost_ret (v := .agg #[.int .i64 0, .int .i64 0, .slice none 0 0, .int .i64 0, .slice none 0 0, .int .i64 0, .int .i64 0, .int .i64 0, .int .i64 0, .int .i64 0, .int .i64 0, .string ⟨#[]⟩, .string ⟨#[]⟩, .int .i64 0, .int .i64 CD]) (by simp [results, Tryz.results10, go_sem, r0, r1, r2, r3, r4, r5, r6, r7, r8, r9, r10, r11, r12, r13, r14]) rfl (STold.ill (below15 HB9.out.cli.2 (by omega) _ _ _ _ _ _ _ _ _ _ _ _ _ _ _))
set_option maxRecDepth 100000 in
set_option maxHeartbeats 1000000 in
theorem smv_full (c : CliV) (la oa : Option Addr) (lc oc : Nat) (x p : Int) (nm : ByteArray) (w : World) (hz : CSz maxLen c) (hA : OpsAt w la c.log) (hC : OpsAt w oa c.out) (hnm : nm.size ≤ maxLen) (h0 : ¬ 8000 < nm.size) (hcr : cliRight c = true) (ht : ¬ 1000000 ≤ c.clock) (hop : opRight ⟨c.clock + 1, c.repl, 1, x, p, nm, ⟨#[]⟩⟩ = true) (CD : Int) (hcd : mayCode (tof c.log) x p = CD) (hc0 : CD = 0) (hfu : (decide (30 ≤ c.out.length) || decide (150 ≤ c.log.length)) = true) : Calls Tryz.prog 10 #[c.agg la lc oa oc, .int .i64 x, .int .i64 p, .string nm] w fun e w' => STold w w' e (OutV.ill 9) := by
  have hr := fun W (hW : Below w.heap.size w W) => sRight_any c la oa lc oc W hz (hA.stays hW) (hC.stays hW)
  have HIL := hide sIll_any
  have hB0 := FB.start w c la lc oa oc
  have HB0 := hide hB0
  obtain ⟨p0, p1, p2, p3, p4, p5⟩ := hB0.cli.cells
  have d0 : decide (8000 < nm.size) = false := by simpa using h0
  have d0' : decide ((8000 : Int) < (nm.size : Int)) = false := by simpa using (show ¬ (8000 : Int) < (nm.size : Int) by omega)
  obtain ⟨T9, hT9⟩ : ∃ T9, T9 = c.clock + 1 := ⟨_, rfl⟩
  have hR := (cliR_iff c).1 hcr
  have hlg := log_yes hR.log
  have hl150 := hR.log.2.1
  have ho30 := hR.few
  have hk0 := hR.clock
  have HT9 := hide hT9
  have hwk : wrap64 (c.clock + 1) = T9 := by unfold wrap64; omega
  have hwk2 : IntKind.i64.wrap (c.clock + 1) = T9 := by rw [IntKind.wrap_i64]; omega
  have dt : decide (1000000 ≤ c.clock) = false := by simpa using ht
  have hso := fun W => sOp_any ⟨T9, c.repl, 1, x, p, nm, ⟨#[]⟩⟩ W hnm (by show (0 : Nat) ≤ maxLen; omega)
  dsimp only [OpV.agg] at hso
  rw [hcr] at hr
  rw [← hT9] at hop
  rw [hop] at hso
  have hof := fun W (hW : Below w.heap.size w W) => sOf_any c.log la lc W hl150 (hA.stays hW) hR.log.1
  have HOF := hide hof
  have HLg := hide hlg
  subst hc0
  have HCD := hide hcd
  have hfl := fun W => sFull_any c la oa lc oc W _ hfu hl150 ho30
  have HFu := hide hfl
  have HR := hide hr
  have HO := hide hso
  unfold CliV.agg at *
  clear hr hso hof hfl hB0 hA hC hz hcr ht hop hT9 hR hlg hl150 ho30 hk0 hfu hcd
  go_enter Tryz.func10, Tryz.ntmps10
  go_wp2_with (first | (go_at_call 40; (refine (HR.out _ HB0.out.cli.2).mono ?_); rintro e w1 ⟨rfl, hb1⟩; have HB1 := hide (HB0.out.step hb1); clear p0 p1 p2 p3 p4 p5 hb1; obtain ⟨p0, p1, p2, p3, p4, p5⟩ := HB1.out.cli.cells) | (go_at_call 41; (refine (HO.out _).mono ?_); rintro e w2 ⟨rfl, hb2⟩; have hal := (Below.refl w1.heap.size w1).alloc (Nat.le_refl _) (.cells #[.int .i64 T9, .int .i64 c.repl, .int .i64 1, .int .i64 x, .int .i64 p, .string nm, .string ⟨#[]⟩] 30); have HB2 := hide ((HB1.out.step hal).step hb2); have HP2 := hide ((hb2.block w1.heap.size (by simp)).trans (heap_alloc_new w1 (.cells #[.int .i64 T9, .int .i64 c.repl, .int .i64 1, .int .i64 x, .int .i64 p, .string nm, .string ⟨#[]⟩] 30))); clear p0 p1 p2 p3 p4 p5 hb2 hal; obtain ⟨p0, p1, p2, p3, p4, p5⟩ := HB2.out.cli.cells; obtain ⟨q0, q1, q2, q3, q4, q5, q6⟩ := op7c HP2.out) | (go_at_call 43; (refine (HOF.out _ HB2.out.cli.2).mono ?_); rintro e w3 ⟨v, dd, rfl, hts, hdb, hb3⟩; obtain ⟨ao1, c1, rfl, hc1, _⟩ := owns_atN hts.row; have HB3 := hide (HB2.out.step hb3); have HTn := hide hts.nodesAt; have HDb := hide hdb; have HTR := hide (tree_of_tof HLg.out hdb); have HP3 := hide ((hb3.block _ (Array.getElem?_eq_some_iff.1 HP2.out).1).trans HP2.out); clear p0 p1 p2 p3 p4 p5 q0 q1 q2 q3 q4 q5 q6 hts hdb hb3 hc1; obtain ⟨p0, p1, p2, p3, p4, p5⟩ := HB3.out.cli.cells; obtain ⟨q0, q1, q2, q3, q4, q5, q6⟩ := op7c HP3.out) | (go_at_call 42; have hmy := sMay_any dd ao1 c1 x p w3 HTR.out HTn.out; rw [(may_alike HDb.out x p).trans HCD.out] at hmy; (refine hmy.mono ?_); rintro e w4 ⟨rfl, hb4⟩; have HB4 := hide (HB3.out.step hb4); have HP4 := hide ((hb4.block _ (Array.getElem?_eq_some_iff.1 HP3.out).1).trans HP3.out); clear p0 p1 p2 p3 p4 p5 q0 q1 q2 q3 q4 q5 q6 hb4 hmy; obtain ⟨p0, p1, p2, p3, p4, p5⟩ := HB4.out.cli.cells; obtain ⟨q0, q1, q2, q3, q4, q5, q6⟩ := op7c HP4.out) | (go_at_call 44; (refine (HFu.out _).mono ?_); rintro e w5 ⟨rfl, hb5⟩; have HB5 := hide (HB4.out.step hb5); have HP5 := hide ((hb5.block _ (Array.getElem?_eq_some_iff.1 HP4.out).1).trans HP4.out); clear p0 p1 p2 p3 p4 p5 q0 q1 q2 q3 q4 q5 q6 hb5; obtain ⟨p0, p1, p2, p3, p4, p5⟩ := HB5.out.cli.cells; obtain ⟨q0, q1, q2, q3, q4, q5, q6⟩ := op7c HP5.out) | (go_at_call 39; (refine (HIL.out _ _).mono ?_); rintro e w9 ⟨rfl, hb9⟩; have HB9 := hide (HB5.out.step hb9); clear p0 p1 p2 p3 p4 p5 q0 q1 q2 q3 q4 q5 q6 hb9; obtain ⟨r0, r1, r2, r3, r4, r5, r6, r7, r8, r9, r10, r11, r12, r13, r14, fr⟩ := fif HB9.out.res) | fail)
  refine bodyPost_ret (v := .agg #[.int .i64 0, .int .i64 0, .slice none 0 0, .int .i64 0, .slice none 0 0, .int .i64 0, .int .i64 0, .int .i64 0, .int .i64 0, .int .i64 0, .int .i64 0, .string ⟨#[]⟩, .string ⟨#[]⟩, .int .i64 0, .int .i64 9]) (by simp [results, Tryz.results10, go_sem, r0, r1, r2, r3, r4, r5, r6, r7, r8, r9, r10, r11, r12, r13, r14]) rfl (STold.ill (below15 HB9.out.cli.2 (by omega) _ _ _ _ _ _ _ _ _ _ _ _ _ _ _))
end Go.Proofs.YtfkgmkcndchkjaaGreatDoor.OpR
namespace Go.Proofs.YtfkgmkcndchkjaaGreatDoor.OpR
open Go.ChangeShapes Go.WideShapes Go.ChangeAt Go.RowKit
set_option linter.unusedVariables false

set_option maxRecDepth 100000 in
set_option maxHeartbeats 1000000 in
theorem smv_ok (c : CliV) (la oa : Option Addr) (lc oc : Nat) (x p : Int) (nm : ByteArray) (w : World) (hz : CSz maxLen c) (hA : OpsAt w la c.log) (hC : OpsAt w oa c.out) (hnm : nm.size ≤ maxLen) (h0 : ¬ 8000 < nm.size) (hcr : cliRight c = true) (ht : ¬ 1000000 ≤ c.clock) (hop : opRight ⟨c.clock + 1, c.repl, 1, x, p, nm, ⟨#[]⟩⟩ = true) (CD : Int) (hcd : mayCode (tof c.log) x p = CD) (hc0 : CD = 0) (hfu : (decide (30 ≤ c.out.length) || decide (150 ≤ c.log.length)) = false) : Calls Tryz.prog 10 #[c.agg la lc oa oc, .int .i64 x, .int .i64 p, .string nm] w fun e w' => STold w w' e ⟨putC c ⟨c.clock + 1, c.repl, 1, x, p, nm, ⟨#[]⟩⟩, ⟨c.clock + 1, c.repl, 1, x, p, nm, ⟨#[]⟩⟩, 0, 0⟩ := by
  have hr := fun W (hW : Below w.heap.size w W) => sRight_any c la oa lc oc W hz (hA.stays hW) (hC.stays hW)
  have HIL := hide sIll_any
  have hB0 := FB.start w c la lc oa oc
  have HB0 := hide hB0
  obtain ⟨p0, p1, p2, p3, p4, p5⟩ := hB0.cli.cells
  have d0 : decide (8000 < nm.size) = false := by simpa using h0
  have d0' : decide ((8000 : Int) < (nm.size : Int)) = false := by simpa using (show ¬ (8000 : Int) < (nm.size : Int) by omega)
  obtain ⟨T9, hT9⟩ : ∃ T9, T9 = c.clock + 1 := ⟨_, rfl⟩
  have hR := (cliR_iff c).1 hcr
  have hlg := log_yes hR.log
  have hl150 := hR.log.2.1
  have ho30 := hR.few
  have hk0 := hR.clock
  have HT9 := hide hT9
  have hwk : wrap64 (c.clock + 1) = T9 := by unfold wrap64; omega
  have hwk2 : IntKind.i64.wrap (c.clock + 1) = T9 := by rw [IntKind.wrap_i64]; omega
  have dt : decide (1000000 ≤ c.clock) = false := by simpa using ht
  have hso := fun W => sOp_any ⟨T9, c.repl, 1, x, p, nm, ⟨#[]⟩⟩ W hnm (by show (0 : Nat) ≤ maxLen; omega)
  dsimp only [OpV.agg] at hso
  rw [hcr] at hr
  rw [← hT9] at hop
  rw [hop] at hso
  have hof := fun W (hW : Below w.heap.size w W) => sOf_any c.log la lc W hl150 (hA.stays hW) hR.log.1
  have HOF := hide hof
  have HLg := hide hlg
  subst hc0
  have HCD := hide hcd
  have hfl := fun W => sFull_any c la oa lc oc W _ hfu hl150 ho30
  have HFu := hide hfl
  have hpu := fun W (hW : Below w.heap.size w W) => sPut_at c la oa lc oc ⟨T9, c.repl, 1, x, p, nm, ⟨#[]⟩⟩ W (by simp at hfu; omega) (by simp at hfu; omega) (hA.stays hW) (hC.stays hW)
  dsimp only [OpV.agg] at hpu
  have HPu := hide hpu
  have HR := hide hr
  have HO := hide hso
  rw [← hT9]
  unfold CliV.agg at *
  clear hr hso hof hfl hpu hB0 hA hC hz hcr ht hop hT9 hR hlg hl150 ho30 hk0 hfu hcd
  go_enter Tryz.func10, Tryz.ntmps10
  go_wp2_with (first | (go_at_call 40; (refine (HR.out _ HB0.out.cli.2).mono ?_); rintro e w1 ⟨rfl, hb1⟩; have HB1 := hide (HB0.out.step hb1); clear p0 p1 p2 p3 p4 p5 hb1; obtain ⟨p0, p1, p2, p3, p4, p5⟩ := HB1.out.cli.cells) | (go_at_call 41; (refine (HO.out _).mono ?_); rintro e w2 ⟨rfl, hb2⟩; have hal := (Below.refl w1.heap.size w1).alloc (Nat.le_refl _) (.cells #[.int .i64 T9, .int .i64 c.repl, .int .i64 1, .int .i64 x, .int .i64 p, .string nm, .string ⟨#[]⟩] 30); have HB2 := hide ((HB1.out.step hal).step hb2); have HP2 := hide ((hb2.block w1.heap.size (by simp)).trans (heap_alloc_new w1 (.cells #[.int .i64 T9, .int .i64 c.repl, .int .i64 1, .int .i64 x, .int .i64 p, .string nm, .string ⟨#[]⟩] 30))); clear p0 p1 p2 p3 p4 p5 hb2 hal; obtain ⟨p0, p1, p2, p3, p4, p5⟩ := HB2.out.cli.cells; obtain ⟨q0, q1, q2, q3, q4, q5, q6⟩ := op7c HP2.out) | (go_at_call 43; (refine (HOF.out _ HB2.out.cli.2).mono ?_); rintro e w3 ⟨v, dd, rfl, hts, hdb, hb3⟩; obtain ⟨ao1, c1, rfl, hc1, _⟩ := owns_atN hts.row; have HB3 := hide (HB2.out.step hb3); have HTn := hide hts.nodesAt; have HDb := hide hdb; have HTR := hide (tree_of_tof HLg.out hdb); have HP3 := hide ((hb3.block _ (Array.getElem?_eq_some_iff.1 HP2.out).1).trans HP2.out); clear p0 p1 p2 p3 p4 p5 q0 q1 q2 q3 q4 q5 q6 hts hdb hb3 hc1; obtain ⟨p0, p1, p2, p3, p4, p5⟩ := HB3.out.cli.cells; obtain ⟨q0, q1, q2, q3, q4, q5, q6⟩ := op7c HP3.out) | (go_at_call 42; have hmy := sMay_any dd ao1 c1 x p w3 HTR.out HTn.out; rw [(may_alike HDb.out x p).trans HCD.out] at hmy; (refine hmy.mono ?_); rintro e w4 ⟨rfl, hb4⟩; have HB4 := hide (HB3.out.step hb4); have HP4 := hide ((hb4.block _ (Array.getElem?_eq_some_iff.1 HP3.out).1).trans HP3.out); clear p0 p1 p2 p3 p4 p5 q0 q1 q2 q3 q4 q5 q6 hb4 hmy; obtain ⟨p0, p1, p2, p3, p4, p5⟩ := HB4.out.cli.cells; obtain ⟨q0, q1, q2, q3, q4, q5, q6⟩ := op7c HP4.out) | (go_at_call 44; (refine (HFu.out _).mono ?_); rintro e w5 ⟨rfl, hb5⟩; have HB5 := hide (HB4.out.step hb5); have HP5 := hide ((hb5.block _ (Array.getElem?_eq_some_iff.1 HP4.out).1).trans HP4.out); clear p0 p1 p2 p3 p4 p5 q0 q1 q2 q3 q4 q5 q6 hb5; obtain ⟨p0, p1, p2, p3, p4, p5⟩ := HB5.out.cli.cells; obtain ⟨q0, q1, q2, q3, q4, q5, q6⟩ := op7c HP5.out) | (go_at_call 45; (refine (HPu.out _ HB5.out.cli.2).mono ?_); intro e w6 h6; obtain ⟨xl, xlc, xo, xoc, he, hL, hO, hx1, hx2, hb6⟩ := h6; dsimp only [OutV.agg, putC] at he; subst he; have HB6 := hide (HB5.out.step hb6); have HX := hide (And.intro hL (And.intro hO (And.intro hx1 hx2))); clear p0 p1 p2 p3 p4 p5 q0 q1 q2 q3 q4 q5 q6 hL hO hx1 hx2 hb6; obtain ⟨r0, r1, r2, r3, r4, r5, r6, r7, r8, r9, r10, r11, r12, r13, r14, fr⟩ := fif HB6.out.res) | fail)
  obtain ⟨hL, hO, hl1, hl2⟩ := HX.out
  have hh := HB5.out.lt
  refine bodyPost_ret (v := .agg #[.int .i64 c.repl, .int .i64 T9, .slice xl (c.log ++ [(⟨T9, c.repl, 1, x, p, nm, ⟨#[]⟩⟩ : OpV)]).length xlc, .int .i64 c.acked, .slice xo (c.out ++ [(⟨T9, c.repl, 1, x, p, nm, ⟨#[]⟩⟩ : OpV)]).length xoc, .int .i64 c.got, .int .i64 T9, .int .i64 c.repl, .int .i64 1, .int .i64 x, .int .i64 p, .string nm, .string ⟨#[]⟩, .int .i64 0, .int .i64 0]) (by simp [results, Tryz.results10, go_sem, r0, r1, r2, r3, r4, r5, r6, r7, r8, r9, r10, r11, r12, r13, r14]) rfl ⟨xl, xlc, xo, xoc, rfl, OpsAt.set15 hL (fun a e => by have := hl1 a e; omega) _ _ _ _ _ _ _ _ _ _ _ _ _ _ _, OpsAt.set15 hO (fun a e => by have := hl2 a e; omega) _ _ _ _ _ _ _ _ _ _ _ _ _ _ _, below15 HB6.out.cli.2 (by omega) _ _ _ _ _ _ _ _ _ _ _ _ _ _ _⟩
end Go.Proofs.YtfkgmkcndchkjaaGreatDoor.OpR
namespace Go.Proofs.YtfkgmkcndchkjaaGreatDoor.OpR
open Go.ChangeShapes Go.WideShapes Go.ChangeAt Go.RowKit
set_option linter.unusedVariables false

set_option maxRecDepth 100000 in
set_option maxHeartbeats 1000000 in
theorem sst_size1 (c : CliV) (la oa : Option Addr) (lc oc : Nat) (x : Int) (nm vl : ByteArray) (w : World) (hz : CSz maxLen c) (hA : OpsAt w la c.log) (hC : OpsAt w oa c.out) (hnm : nm.size ≤ maxLen) (hvl : vl.size ≤ maxLen) (h1 : 8000 < nm.size) : Calls Tryz.prog 18 #[c.agg la lc oa oc, .int .i64 x, .string nm, .string vl] w fun e w' => STold w w' e (OutV.ill 2) := by
  have hr := fun W (hW : Below w.heap.size w W) => sRight_any c la oa lc oc W hz (hA.stays hW) (hC.stays hW)
  have HIL := hide sIll_any
  have hB0 := FB.start w c la lc oa oc
  have HB0 := hide hB0
  obtain ⟨p0, p1, p2, p3, p4, p5⟩ := hB0.cli.cells
  have d1 : decide (8000 < nm.size) = true := by simpa using h1
  have d1' : decide ((8000 : Int) < (nm.size : Int)) = true := by simpa using (show (8000 : Int) < (nm.size : Int) by omega)
  unfold CliV.agg at *
  clear hr hB0 hA hC hz
  go_enter Tryz.func18, Tryz.ntmps18
  go_wp2_with (first | (go_at_call 39; (refine (HIL.out _ _).mono ?_); rintro e w9 ⟨rfl, hb9⟩; have HB9 := hide (HB0.out.step hb9); clear p0 p1 p2 p3 p4 p5 hb9; obtain ⟨r0, r1, r2, r3, r4, r5, r6, r7, r8, r9, r10, r11, r12, r13, r14, fr⟩ := fif HB9.out.res) | fail)
  refine bodyPost_ret (v := .agg #[.int .i64 0, .int .i64 0, .slice none 0 0, .int .i64 0, .slice none 0 0, .int .i64 0, .int .i64 0, .int .i64 0, .int .i64 0, .int .i64 0, .int .i64 0, .string ⟨#[]⟩, .string ⟨#[]⟩, .int .i64 0, .int .i64 2]) (by simp [results, Tryz.results18, go_sem, r0, r1, r2, r3, r4, r5, r6, r7, r8, r9, r10, r11, r12, r13, r14]) rfl (STold.ill (below15 HB9.out.cli.2 (by omega) _ _ _ _ _ _ _ _ _ _ _ _ _ _ _))
set_option maxRecDepth 100000 in
set_option maxHeartbeats 1000000 in
theorem sst_size2 (c : CliV) (la oa : Option Addr) (lc oc : Nat) (x : Int) (nm vl : ByteArray) (w : World) (hz : CSz maxLen c) (hA : OpsAt w la c.log) (hC : OpsAt w oa c.out) (hnm : nm.size ≤ maxLen) (hvl : vl.size ≤ maxLen) (h0 : ¬ 8000 < nm.size) (h1 : 8000 < vl.size) : Calls Tryz.prog 18 #[c.agg la lc oa oc, .int .i64 x, .string nm, .string vl] w fun e w' => STold w w' e (OutV.ill 2) := by
  have hr := fun W (hW : Below w.heap.size w W) => sRight_any c la oa lc oc W hz (hA.stays hW) (hC.stays hW)
  have HIL := hide sIll_any
  have hB0 := FB.start w c la lc oa oc
  have HB0 := hide hB0
  obtain ⟨p0, p1, p2, p3, p4, p5⟩ := hB0.cli.cells
  have d0 : decide (8000 < nm.size) = false := by simpa using h0
  have d0' : decide ((8000 : Int) < (nm.size : Int)) = false := by simpa using (show ¬ (8000 : Int) < (nm.size : Int) by omega)
  have d1 : decide (8000 < vl.size) = true := by simpa using h1
  have d1' : decide ((8000 : Int) < (vl.size : Int)) = true := by simpa using (show (8000 : Int) < (vl.size : Int) by omega)
  unfold CliV.agg at *
  clear hr hB0 hA hC hz
  go_enter Tryz.func18, Tryz.ntmps18
  go_wp2_with (first | (go_at_call 39; (refine (HIL.out _ _).mono ?_); rintro e w9 ⟨rfl, hb9⟩; have HB9 := hide (HB0.out.step hb9); clear p0 p1 p2 p3 p4 p5 hb9; obtain ⟨r0, r1, r2, r3, r4, r5, r6, r7, r8, r9, r10, r11, r12, r13, r14, fr⟩ := fif HB9.out.res) | fail)
  refine bodyPost_ret (v := .agg #[.int .i64 0, .int .i64 0, .slice none 0 0, .int .i64 0, .slice none 0 0, .int .i64 0, .int .i64 0, .int .i64 0, .int .i64 0, .int .i64 0, .int .i64 0, .string ⟨#[]⟩, .string ⟨#[]⟩, .int .i64 0, .int .i64 2]) (by simp [results, Tryz.results18, go_sem, r0, r1, r2, r3, r4, r5, r6, r7, r8, r9, r10, r11, r12, r13, r14]) rfl (STold.ill (below15 HB9.out.cli.2 (by omega) _ _ _ _ _ _ _ _ _ _ _ _ _ _ _))
set_option maxRecDepth 100000 in
set_option maxHeartbeats 1000000 in
theorem sst_form (c : CliV) (la oa : Option Addr) (lc oc : Nat) (x : Int) (nm vl : ByteArray) (w : World) (hz : CSz maxLen c) (hA : OpsAt w la c.log) (hC : OpsAt w oa c.out) (hnm : nm.size ≤ maxLen) (hvl : vl.size ≤ maxLen) (h0 : ¬ 8000 < nm.size) (h00 : ¬ 8000 < vl.size) (hcr : cliRight c = false) : Calls Tryz.prog 18 #[c.agg la lc oa oc, .int .i64 x, .string nm, .string vl] w fun e w' => STold w w' e (OutV.ill 1) := by
  have hr := fun W (hW : Below w.heap.size w W) => sRight_any c la oa lc oc W hz (hA.stays hW) (hC.stays hW)
  have HIL := hide sIll_any
  have hB0 := FB.start w c la lc oa oc
  have HB0 := hide hB0
  obtain ⟨p0, p1, p2, p3, p4, p5⟩ := hB0.cli.cells
  have d0 : decide (8000 < nm.size) = false := by simpa using h0
  have d0' : decide ((8000 : Int) < (nm.size : Int)) = false := by simpa using (show ¬ (8000 : Int) < (nm.size : Int) by omega)
  have e0 : decide (8000 < vl.size) = false := by simpa using h00
  have e0' : decide ((8000 : Int) < (vl.size : Int)) = false := by simpa using (show ¬ (8000 : Int) < (vl.size : Int) by omega)
  rw [hcr] at hr
  have HR := hide hr
  unfold CliV.agg at *
  clear hr hB0 hA hC hz hcr
  go_enter Tryz.func18, Tryz.ntmps18
  go_wp2_with (first | (go_at_call 40; (refine (HR.out _ HB0.out.cli.2).mono ?_); rintro e w1 ⟨rfl, hb1⟩; have HB1 := hide (HB0.out.step hb1); clear p0 p1 p2 p3 p4 p5 hb1; obtain ⟨p0, p1, p2, p3, p4, p5⟩ := HB1.out.cli.cells) | (go_at_call 39; (refine (HIL.out _ _).mono ?_); rintro e w9 ⟨rfl, hb9⟩; have HB9 := hide (HB1.out.step hb9); clear p0 p1 p2 p3 p4 p5 hb9; obtain ⟨r0, r1, r2, r3, r4, r5, r6, r7, r8, r9, r10, r11, r12, r13, r14, fr⟩ := fif HB9.out.res) | fail)
  refine bodyPost_ret (v := .agg #[.int .i64 0, .int .i64 0, .slice none 0 0, .int .i64 0, .slice none 0 0, .int .i64 0, .int .i64 0, .int .i64 0, .int .i64 0, .int .i64 0, .int .i64 0, .string ⟨#[]⟩, .string ⟨#[]⟩, .int .i64 0, .int .i64 1]) (by simp [results, Tryz.results18, go_sem, r0, r1, r2, r3, r4, r5, r6, r7, r8, r9, r10, r11, r12, r13, r14]) rfl (STold.ill (below15 HB9.out.cli.2 (by omega) _ _ _ _ _ _ _ _ _ _ _ _ _ _ _))
set_option maxRecDepth 100000 in
set_option maxHeartbeats 1000000 in
theorem sst_time (c : CliV) (la oa : Option Addr) (lc oc : Nat) (x : Int) (nm vl : ByteArray) (w : World) (hz : CSz maxLen c) (hA : OpsAt w la c.log) (hC : OpsAt w oa c.out) (hnm : nm.size ≤ maxLen) (hvl : vl.size ≤ maxLen) (h0 : ¬ 8000 < nm.size) (h00 : ¬ 8000 < vl.size) (hcr : cliRight c = true) (ht : 1000000 ≤ c.clock) : Calls Tryz.prog 18 #[c.agg la lc oa oc, .int .i64 x, .string nm, .string vl] w fun e w' => STold w w' e (OutV.ill 9) := by
  have hr := fun W (hW : Below w.heap.size w W) => sRight_any c la oa lc oc W hz (hA.stays hW) (hC.stays hW)
  have HIL := hide sIll_any
  have hB0 := FB.start w c la lc oa oc
  have HB0 := hide hB0
  obtain ⟨p0, p1, p2, p3, p4, p5⟩ := hB0.cli.cells
  have d0 : decide (8000 < nm.size) = false := by simpa using h0
  have d0' : decide ((8000 : Int) < (nm.size : Int)) = false := by simpa using (show ¬ (8000 : Int) < (nm.size : Int) by omega)
  have e0 : decide (8000 < vl.size) = false := by simpa using h00
  have e0' : decide ((8000 : Int) < (vl.size : Int)) = false := by simpa using (show ¬ (8000 : Int) < (vl.size : Int) by omega)
  rw [hcr] at hr
  have HR := hide hr
  have dt : decide (1000000 ≤ c.clock) = true := by simpa using ht
  unfold CliV.agg at *
  clear hr hB0 hA hC hz hcr ht
  go_enter Tryz.func18, Tryz.ntmps18
  go_wp2_with (first | (go_at_call 40; (refine (HR.out _ HB0.out.cli.2).mono ?_); rintro e w1 ⟨rfl, hb1⟩; have HB1 := hide (HB0.out.step hb1); clear p0 p1 p2 p3 p4 p5 hb1; obtain ⟨p0, p1, p2, p3, p4, p5⟩ := HB1.out.cli.cells) | (go_at_call 39; (refine (HIL.out _ _).mono ?_); rintro e w9 ⟨rfl, hb9⟩; have HB9 := hide (HB1.out.step hb9); clear p0 p1 p2 p3 p4 p5 hb9; obtain ⟨r0, r1, r2, r3, r4, r5, r6, r7, r8, r9, r10, r11, r12, r13, r14, fr⟩ := fif HB9.out.res) | fail)
  refine bodyPost_ret (v := .agg #[.int .i64 0, .int .i64 0, .slice none 0 0, .int .i64 0, .slice none 0 0, .int .i64 0, .int .i64 0, .int .i64 0, .int .i64 0, .int .i64 0, .int .i64 0, .string ⟨#[]⟩, .string ⟨#[]⟩, .int .i64 0, .int .i64 9]) (by simp [results, Tryz.results18, go_sem, r0, r1, r2, r3, r4, r5, r6, r7, r8, r9, r10, r11, r12, r13, r14]) rfl (STold.ill (below15 HB9.out.cli.2 (by omega) _ _ _ _ _ _ _ _ _ _ _ _ _ _ _))
set_option maxRecDepth 100000 in
set_option maxHeartbeats 1000000 in
theorem sst_wrong (c : CliV) (la oa : Option Addr) (lc oc : Nat) (x : Int) (nm vl : ByteArray) (w : World) (hz : CSz maxLen c) (hA : OpsAt w la c.log) (hC : OpsAt w oa c.out) (hnm : nm.size ≤ maxLen) (hvl : vl.size ≤ maxLen) (h0 : ¬ 8000 < nm.size) (h00 : ¬ 8000 < vl.size) (hcr : cliRight c = true) (ht : ¬ 1000000 ≤ c.clock) (hop : opRight ⟨c.clock + 1, c.repl, 2, x, 0, nm, vl⟩ = false) : Calls Tryz.prog 18 #[c.agg la lc oa oc, .int .i64 x, .string nm, .string vl] w fun e w' => STold w w' e (OutV.ill 1) := by
  have hr := fun W (hW : Below w.heap.size w W) => sRight_any c la oa lc oc W hz (hA.stays hW) (hC.stays hW)
  have HIL := hide sIll_any
  have hB0 := FB.start w c la lc oa oc
  have HB0 := hide hB0
  obtain ⟨p0, p1, p2, p3, p4, p5⟩ := hB0.cli.cells
  have d0 : decide (8000 < nm.size) = false := by simpa using h0
  have d0' : decide ((8000 : Int) < (nm.size : Int)) = false := by simpa using (show ¬ (8000 : Int) < (nm.size : Int) by omega)
  have e0 : decide (8000 < vl.size) = false := by simpa using h00
  have e0' : decide ((8000 : Int) < (vl.size : Int)) = false := by simpa using (show ¬ (8000 : Int) < (vl.size : Int) by omega)
  obtain ⟨T9, hT9⟩ : ∃ T9, T9 = c.clock + 1 := ⟨_, rfl⟩
  have hR := (cliR_iff c).1 hcr
  have hlg := log_yes hR.log
  have hl150 := hR.log.2.1
  have ho30 := hR.few
  have hk0 := hR.clock
  have HT9 := hide hT9
  have hwk : wrap64 (c.clock + 1) = T9 := by unfold wrap64; omega
  have hwk2 : IntKind.i64.wrap (c.clock + 1) = T9 := by rw [IntKind.wrap_i64]; omega
  have dt : decide (1000000 ≤ c.clock) = false := by simpa using ht
  have hso := fun W => sOp_any ⟨T9, c.repl, 2, x, 0, nm, vl⟩ W hnm hvl
  dsimp only [OpV.agg] at hso
  rw [hcr] at hr
  rw [← hT9] at hop
  rw [hop] at hso
  have HR := hide hr
  have HO := hide hso
  unfold CliV.agg at *
  clear hr hso hB0 hA hC hz hcr ht hop hT9 hR hlg hl150 ho30 hk0
  go_enter Tryz.func18, Tryz.ntmps18
  go_wp2_with (first | (go_at_call 40; (refine (HR.out _ HB0.out.cli.2).mono ?_); rintro e w1 ⟨rfl, hb1⟩; have HB1 := hide (HB0.out.step hb1); clear p0 p1 p2 p3 p4 p5 hb1; obtain ⟨p0, p1, p2, p3, p4, p5⟩ := HB1.out.cli.cells) | (go_at_call 41; (refine (HO.out _).mono ?_); rintro e w2 ⟨rfl, hb2⟩; have hal := (Below.refl w1.heap.size w1).alloc (Nat.le_refl _) (.cells #[.int .i64 T9, .int .i64 c.repl, .int .i64 2, .int .i64 x, .int .i64 0, .string nm, .string vl] 30); have HB2 := hide ((HB1.out.step hal).step hb2); have HP2 := hide ((hb2.block w1.heap.size (by simp)).trans (heap_alloc_new w1 (.cells #[.int .i64 T9, .int .i64 c.repl, .int .i64 2, .int .i64 x, .int .i64 0, .string nm, .string vl] 30))); clear p0 p1 p2 p3 p4 p5 hb2 hal; obtain ⟨p0, p1, p2, p3, p4, p5⟩ := HB2.out.cli.cells; obtain ⟨q0, q1, q2, q3, q4, q5, q6⟩ := op7c HP2.out) | (go_at_call 39; (refine (HIL.out _ _).mono ?_); rintro e w9 ⟨rfl, hb9⟩; have HB9 := hide (HB2.out.step hb9); clear p0 p1 p2 p3 p4 p5 q0 q1 q2 q3 q4 q5 q6 hb9; obtain ⟨r0, r1, r2, r3, r4, r5, r6, r7, r8, r9, r10, r11, r12, r13, r14, fr⟩ := fif HB9.out.res) | fail)
  refine bodyPost_ret (v := .agg #[.int .i64 0, .int .i64 0, .slice none 0 0, .int .i64 0, .slice none 0 0, .int .i64 0, .int .i64 0, .int .i64 0, .int .i64 0, .int .i64 0, .int .i64 0, .string ⟨#[]⟩, .string ⟨#[]⟩, .int .i64 0, .int .i64 1]) (by simp [results, Tryz.results18, go_sem, r0, r1, r2, r3, r4, r5, r6, r7, r8, r9, r10, r11, r12, r13, r14]) rfl (STold.ill (below15 HB9.out.cli.2 (by omega) _ _ _ _ _ _ _ _ _ _ _ _ _ _ _))
set_option maxRecDepth 100000 in
set_option maxHeartbeats 1000000 in
theorem sst_place (c : CliV) (la oa : Option Addr) (lc oc : Nat) (x : Int) (nm vl : ByteArray) (w : World) (hz : CSz maxLen c) (hA : OpsAt w la c.log) (hC : OpsAt w oa c.out) (hnm : nm.size ≤ maxLen) (hvl : vl.size ≤ maxLen) (h0 : ¬ 8000 < nm.size) (h00 : ¬ 8000 < vl.size) (hcr : cliRight c = true) (ht : ¬ 1000000 ≤ c.clock) (hop : opRight ⟨c.clock + 1, c.repl, 2, x, 0, nm, vl⟩ = true)  (hcd : (nodOf (tof c.log) x).isSome = false) : Calls Tryz.prog 18 #[c.agg la lc oa oc, .int .i64 x, .string nm, .string vl] w fun e w' => STold w w' e (OutV.ill 6) := by
  have hr := fun W (hW : Below w.heap.size w W) => sRight_any c la oa lc oc W hz (hA.stays hW) (hC.stays hW)
  have HIL := hide sIll_any
  have hB0 := FB.start w c la lc oa oc
  have HB0 := hide hB0
  obtain ⟨p0, p1, p2, p3, p4, p5⟩ := hB0.cli.cells
  have d0 : decide (8000 < nm.size) = false := by simpa using h0
  have d0' : decide ((8000 : Int) < (nm.size : Int)) = false := by simpa using (show ¬ (8000 : Int) < (nm.size : Int) by omega)
  have e0 : decide (8000 < vl.size) = false := by simpa using h00
  have e0' : decide ((8000 : Int) < (vl.size : Int)) = false := by simpa using (show ¬ (8000 : Int) < (vl.size : Int) by omega)
  obtain ⟨T9, hT9⟩ : ∃ T9, T9 = c.clock + 1 := ⟨_, rfl⟩
  have hR := (cliR_iff c).1 hcr
  have hlg := log_yes hR.log
  have hl150 := hR.log.2.1
  have ho30 := hR.few
  have hk0 := hR.clock
  have HT9 := hide hT9
  have hwk : wrap64 (c.clock + 1) = T9 := by unfold wrap64; omega
  have hwk2 : IntKind.i64.wrap (c.clock + 1) = T9 := by rw [IntKind.wrap_i64]; omega
  have dt : decide (1000000 ≤ c.clock) = false := by simpa using ht
  have hso := fun W => sOp_any ⟨T9, c.repl, 2, x, 0, nm, vl⟩ W hnm hvl
  dsimp only [OpV.agg] at hso
  rw [hcr] at hr
  rw [← hT9] at hop
  rw [hop] at hso
  have hof := fun W (hW : Below w.heap.size w W) => sOf_any c.log la lc W hl150 (hA.stays hW) hR.log.1
  have HOF := hide hof
  have HLg := hide hlg
  have HCD := hide hcd
  have HR := hide hr
  have HO := hide hso
  unfold CliV.agg at *
  clear hr hso hof hB0 hA hC hz hcr ht hop hT9 hR hlg hl150 ho30 hk0 hcd
  go_enter Tryz.func18, Tryz.ntmps18
  go_wp2_with (first | (go_at_call 40; (refine (HR.out _ HB0.out.cli.2).mono ?_); rintro e w1 ⟨rfl, hb1⟩; have HB1 := hide (HB0.out.step hb1); clear p0 p1 p2 p3 p4 p5 hb1; obtain ⟨p0, p1, p2, p3, p4, p5⟩ := HB1.out.cli.cells) | (go_at_call 41; (refine (HO.out _).mono ?_); rintro e w2 ⟨rfl, hb2⟩; have hal := (Below.refl w1.heap.size w1).alloc (Nat.le_refl _) (.cells #[.int .i64 T9, .int .i64 c.repl, .int .i64 2, .int .i64 x, .int .i64 0, .string nm, .string vl] 30); have HB2 := hide ((HB1.out.step hal).step hb2); have HP2 := hide ((hb2.block w1.heap.size (by simp)).trans (heap_alloc_new w1 (.cells #[.int .i64 T9, .int .i64 c.repl, .int .i64 2, .int .i64 x, .int .i64 0, .string nm, .string vl] 30))); clear p0 p1 p2 p3 p4 p5 hb2 hal; obtain ⟨p0, p1, p2, p3, p4, p5⟩ := HB2.out.cli.cells; obtain ⟨q0, q1, q2, q3, q4, q5, q6⟩ := op7c HP2.out) | (go_at_call 43; (refine (HOF.out _ HB2.out.cli.2).mono ?_); rintro e w3 ⟨v, dd, rfl, hts, hdb, hb3⟩; obtain ⟨ao1, c1, rfl, hc1, _⟩ := owns_atN hts.row; have HB3 := hide (HB2.out.step hb3); have HTn := hide hts.nodesAt; have HDb := hide hdb; have HTR := hide (tree_of_tof HLg.out hdb); have HP3 := hide ((hb3.block _ (Array.getElem?_eq_some_iff.1 HP2.out).1).trans HP2.out); clear p0 p1 p2 p3 p4 p5 q0 q1 q2 q3 q4 q5 q6 hts hdb hb3 hc1; obtain ⟨p0, p1, p2, p3, p4, p5⟩ := HB3.out.cli.cells; obtain ⟨q0, q1, q2, q3, q4, q5, q6⟩ := op7c HP3.out) | (go_at_call 52; have hmy := sAt_any dd ao1 c1 x w3 (by have := HTR.out.1; unfold maxLen; omega) HTn.out; have hsg : decide (atI dd x < 0) = _ := (atI_neg dd x).trans (congrArg not ((nodOf_alike HDb.out x).trans HCD.out)); (refine hmy.mono ?_); rintro e w4 ⟨rfl, hb4⟩; have HB4 := hide (HB3.out.step hb4); have HP4 := hide ((hb4.block _ (Array.getElem?_eq_some_iff.1 HP3.out).1).trans HP3.out); simp only [Bool.not_false] at hsg; clear p0 p1 p2 p3 p4 p5 q0 q1 q2 q3 q4 q5 q6 hb4 hmy; obtain ⟨p0, p1, p2, p3, p4, p5⟩ := HB4.out.cli.cells; obtain ⟨q0, q1, q2, q3, q4, q5, q6⟩ := op7c HP4.out) | (go_at_call 39; (refine (HIL.out _ _).mono ?_); rintro e w9 ⟨rfl, hb9⟩; have HB9 := hide (HB4.out.step hb9); clear p0 p1 p2 p3 p4 p5 q0 q1 q2 q3 q4 q5 q6 hb9; obtain ⟨r0, r1, r2, r3, r4, r5, r6, r7, r8, r9, r10, r11, r12, r13, r14, fr⟩ := fif HB9.out.res) | fail)
  refine bodyPost_ret (v := .agg #[.int .i64 0, .int .i64 0, .slice none 0 0, .int .i64 0, .slice none 0 0, .int .i64 0, .int .i64 0, .int .i64 0, .int .i64 0, .int .i64 0, .int .i64 0, .string ⟨#[]⟩, .string ⟨#[]⟩, .int .i64 0, .int .i64 6]) (by simp [results, Tryz.results18, go_sem, r0, r1, r2, r3, r4, r5, r6, r7, r8, r9, r10, r11, r12, r13, r14]) rfl (STold.ill (below15 HB9.out.cli.2 (by omega) _ _ _ _ _ _ _ _ _ _ _ _ _ _ _))
set_option maxRecDepth 100000 in
set_option maxHeartbeats 1000000 in
theorem sst_full (c : CliV) (la oa : Option Addr) (lc oc : Nat) (x : Int) (nm vl : ByteArray) (w : World) (hz : CSz maxLen c) (hA : OpsAt w la c.log) (hC : OpsAt w oa c.out) (hnm : nm.size ≤ maxLen) (hvl : vl.size ≤ maxLen) (h0 : ¬ 8000 < nm.size) (h00 : ¬ 8000 < vl.size) (hcr : cliRight c = true) (ht : ¬ 1000000 ≤ c.clock) (hop : opRight ⟨c.clock + 1, c.repl, 2, x, 0, nm, vl⟩ = true)  (hcd : (nodOf (tof c.log) x).isSome = true) (hfu : (decide (30 ≤ c.out.length) || decide (150 ≤ c.log.length)) = true) : Calls Tryz.prog 18 #[c.agg la lc oa oc, .int .i64 x, .string nm, .string vl] w fun e w' => STold w w' e (OutV.ill 9) := by
  have hr := fun W (hW : Below w.heap.size w W) => sRight_any c la oa lc oc W hz (hA.stays hW) (hC.stays hW)
  have HIL := hide sIll_any
  have hB0 := FB.start w c la lc oa oc
  have HB0 := hide hB0
  obtain ⟨p0, p1, p2, p3, p4, p5⟩ := hB0.cli.cells
  have d0 : decide (8000 < nm.size) = false := by simpa using h0
  have d0' : decide ((8000 : Int) < (nm.size : Int)) = false := by simpa using (show ¬ (8000 : Int) < (nm.size : Int) by omega)
  have e0 : decide (8000 < vl.size) = false := by simpa using h00
  have e0' : decide ((8000 : Int) < (vl.size : Int)) = false := by simpa using (show ¬ (8000 : Int) < (vl.size : Int) by omega)
  obtain ⟨T9, hT9⟩ : ∃ T9, T9 = c.clock + 1 := ⟨_, rfl⟩
  have hR := (cliR_iff c).1 hcr
  have hlg := log_yes hR.log
  have hl150 := hR.log.2.1
  have ho30 := hR.few
  have hk0 := hR.clock
  have HT9 := hide hT9
  have hwk : wrap64 (c.clock + 1) = T9 := by unfold wrap64; omega
  have hwk2 : IntKind.i64.wrap (c.clock + 1) = T9 := by rw [IntKind.wrap_i64]; omega
  have dt : decide (1000000 ≤ c.clock) = false := by simpa using ht
  have hso := fun W => sOp_any ⟨T9, c.repl, 2, x, 0, nm, vl⟩ W hnm hvl
  dsimp only [OpV.agg] at hso
  rw [hcr] at hr
  rw [← hT9] at hop
  rw [hop] at hso
  have hof := fun W (hW : Below w.heap.size w W) => sOf_any c.log la lc W hl150 (hA.stays hW) hR.log.1
  have HOF := hide hof
  have HLg := hide hlg
  have HCD := hide hcd
  have hfl := fun W => sFull_any c la oa lc oc W _ hfu hl150 ho30
  have HFu := hide hfl
  have HR := hide hr
  have HO := hide hso
  unfold CliV.agg at *
  clear hr hso hof hfl hB0 hA hC hz hcr ht hop hT9 hR hlg hl150 ho30 hk0 hfu hcd
  go_enter Tryz.func18, Tryz.ntmps18
  go_wp2_with (first | (go_at_call 40; (refine (HR.out _ HB0.out.cli.2).mono ?_); rintro e w1 ⟨rfl, hb1⟩; have HB1 := hide (HB0.out.step hb1); clear p0 p1 p2 p3 p4 p5 hb1; obtain ⟨p0, p1, p2, p3, p4, p5⟩ := HB1.out.cli.cells) | (go_at_call 41; (refine (HO.out _).mono ?_); rintro e w2 ⟨rfl, hb2⟩; have hal := (Below.refl w1.heap.size w1).alloc (Nat.le_refl _) (.cells #[.int .i64 T9, .int .i64 c.repl, .int .i64 2, .int .i64 x, .int .i64 0, .string nm, .string vl] 30); have HB2 := hide ((HB1.out.step hal).step hb2); have HP2 := hide ((hb2.block w1.heap.size (by simp)).trans (heap_alloc_new w1 (.cells #[.int .i64 T9, .int .i64 c.repl, .int .i64 2, .int .i64 x, .int .i64 0, .string nm, .string vl] 30))); clear p0 p1 p2 p3 p4 p5 hb2 hal; obtain ⟨p0, p1, p2, p3, p4, p5⟩ := HB2.out.cli.cells; obtain ⟨q0, q1, q2, q3, q4, q5, q6⟩ := op7c HP2.out) | (go_at_call 43; (refine (HOF.out _ HB2.out.cli.2).mono ?_); rintro e w3 ⟨v, dd, rfl, hts, hdb, hb3⟩; obtain ⟨ao1, c1, rfl, hc1, _⟩ := owns_atN hts.row; have HB3 := hide (HB2.out.step hb3); have HTn := hide hts.nodesAt; have HDb := hide hdb; have HTR := hide (tree_of_tof HLg.out hdb); have HP3 := hide ((hb3.block _ (Array.getElem?_eq_some_iff.1 HP2.out).1).trans HP2.out); clear p0 p1 p2 p3 p4 p5 q0 q1 q2 q3 q4 q5 q6 hts hdb hb3 hc1; obtain ⟨p0, p1, p2, p3, p4, p5⟩ := HB3.out.cli.cells; obtain ⟨q0, q1, q2, q3, q4, q5, q6⟩ := op7c HP3.out) | (go_at_call 52; have hmy := sAt_any dd ao1 c1 x w3 (by have := HTR.out.1; unfold maxLen; omega) HTn.out; have hsg : decide (atI dd x < 0) = _ := (atI_neg dd x).trans (congrArg not ((nodOf_alike HDb.out x).trans HCD.out)); (refine hmy.mono ?_); rintro e w4 ⟨rfl, hb4⟩; have HB4 := hide (HB3.out.step hb4); have HP4 := hide ((hb4.block _ (Array.getElem?_eq_some_iff.1 HP3.out).1).trans HP3.out); simp only [Bool.not_true] at hsg; clear p0 p1 p2 p3 p4 p5 q0 q1 q2 q3 q4 q5 q6 hb4 hmy; obtain ⟨p0, p1, p2, p3, p4, p5⟩ := HB4.out.cli.cells; obtain ⟨q0, q1, q2, q3, q4, q5, q6⟩ := op7c HP4.out) | (go_at_call 44; (refine (HFu.out _).mono ?_); rintro e w5 ⟨rfl, hb5⟩; have HB5 := hide (HB4.out.step hb5); have HP5 := hide ((hb5.block _ (Array.getElem?_eq_some_iff.1 HP4.out).1).trans HP4.out); clear p0 p1 p2 p3 p4 p5 q0 q1 q2 q3 q4 q5 q6 hb5; obtain ⟨p0, p1, p2, p3, p4, p5⟩ := HB5.out.cli.cells; obtain ⟨q0, q1, q2, q3, q4, q5, q6⟩ := op7c HP5.out) | (go_at_call 39; (refine (HIL.out _ _).mono ?_); rintro e w9 ⟨rfl, hb9⟩; have HB9 := hide (HB5.out.step hb9); clear p0 p1 p2 p3 p4 p5 q0 q1 q2 q3 q4 q5 q6 hb9; obtain ⟨r0, r1, r2, r3, r4, r5, r6, r7, r8, r9, r10, r11, r12, r13, r14, fr⟩ := fif HB9.out.res) | fail)
  refine bodyPost_ret (v := .agg #[.int .i64 0, .int .i64 0, .slice none 0 0, .int .i64 0, .slice none 0 0, .int .i64 0, .int .i64 0, .int .i64 0, .int .i64 0, .int .i64 0, .int .i64 0, .string ⟨#[]⟩, .string ⟨#[]⟩, .int .i64 0, .int .i64 9]) (by simp [results, Tryz.results18, go_sem, r0, r1, r2, r3, r4, r5, r6, r7, r8, r9, r10, r11, r12, r13, r14]) rfl (STold.ill (below15 HB9.out.cli.2 (by omega) _ _ _ _ _ _ _ _ _ _ _ _ _ _ _))
end Go.Proofs.YtfkgmkcndchkjaaGreatDoor.OpR
namespace Go.Proofs.YtfkgmkcndchkjaaGreatDoor.OpR
open Go.ChangeShapes Go.WideShapes Go.ChangeAt Go.RowKit
set_option linter.unusedVariables false

set_option maxRecDepth 100000 in
set_option maxHeartbeats 1000000 in
theorem sst_ok (c : CliV) (la oa : Option Addr) (lc oc : Nat) (x : Int) (nm vl : ByteArray) (w : World) (hz : CSz maxLen c) (hA : OpsAt w la c.log) (hC : OpsAt w oa c.out) (hnm : nm.size ≤ maxLen) (hvl : vl.size ≤ maxLen) (h0 : ¬ 8000 < nm.size) (h00 : ¬ 8000 < vl.size) (hcr : cliRight c = true) (ht : ¬ 1000000 ≤ c.clock) (hop : opRight ⟨c.clock + 1, c.repl, 2, x, 0, nm, vl⟩ = true)  (hcd : (nodOf (tof c.log) x).isSome = true) (hfu : (decide (30 ≤ c.out.length) || decide (150 ≤ c.log.length)) = false) : Calls Tryz.prog 18 #[c.agg la lc oa oc, .int .i64 x, .string nm, .string vl] w fun e w' => STold w w' e ⟨putC c ⟨c.clock + 1, c.repl, 2, x, 0, nm, vl⟩, ⟨c.clock + 1, c.repl, 2, x, 0, nm, vl⟩, 0, 0⟩ := by
  have hr := fun W (hW : Below w.heap.size w W) => sRight_any c la oa lc oc W hz (hA.stays hW) (hC.stays hW)
  have HIL := hide sIll_any
  have hB0 := FB.start w c la lc oa oc
  have HB0 := hide hB0
  obtain ⟨p0, p1, p2, p3, p4, p5⟩ := hB0.cli.cells
  have d0 : decide (8000 < nm.size) = false := by simpa using h0
  have d0' : decide ((8000 : Int) < (nm.size : Int)) = false := by simpa using (show ¬ (8000 : Int) < (nm.size : Int) by omega)
  have e0 : decide (8000 < vl.size) = false := by simpa using h00
  have e0' : decide ((8000 : Int) < (vl.size : Int)) = false := by simpa using (show ¬ (8000 : Int) < (vl.size : Int) by omega)
  obtain ⟨T9, hT9⟩ : ∃ T9, T9 = c.clock + 1 := ⟨_, rfl⟩
  have hR := (cliR_iff c).1 hcr
  have hlg := log_yes hR.log
  have hl150 := hR.log.2.1
  have ho30 := hR.few
  have hk0 := hR.clock
  have HT9 := hide hT9
  have hwk : wrap64 (c.clock + 1) = T9 := by unfold wrap64; omega
  have hwk2 : IntKind.i64.wrap (c.clock + 1) = T9 := by rw [IntKind.wrap_i64]; omega
  have dt : decide (1000000 ≤ c.clock) = false := by simpa using ht
  have hso := fun W => sOp_any ⟨T9, c.repl, 2, x, 0, nm, vl⟩ W hnm hvl
  dsimp only [OpV.agg] at hso
  rw [hcr] at hr
  rw [← hT9] at hop
  rw [hop] at hso
  have hof := fun W (hW : Below w.heap.size w W) => sOf_any c.log la lc W hl150 (hA.stays hW) hR.log.1
  have HOF := hide hof
  have HLg := hide hlg
  have HCD := hide hcd
  have hfl := fun W => sFull_any c la oa lc oc W _ hfu hl150 ho30
  have HFu := hide hfl
  have hpu := fun W (hW : Below w.heap.size w W) => sPut_at c la oa lc oc ⟨T9, c.repl, 2, x, 0, nm, vl⟩ W (by simp at hfu; omega) (by simp at hfu; omega) (hA.stays hW) (hC.stays hW)
  dsimp only [OpV.agg] at hpu
  have HPu := hide hpu
  have HR := hide hr
  have HO := hide hso
  rw [← hT9]
  unfold CliV.agg at *
  clear hr hso hof hfl hpu hB0 hA hC hz hcr ht hop hT9 hR hlg hl150 ho30 hk0 hfu hcd
  go_enter Tryz.func18, Tryz.ntmps18
  go_wp2_with (first | (go_at_call 40; (refine (HR.out _ HB0.out.cli.2).mono ?_); rintro e w1 ⟨rfl, hb1⟩; have HB1 := hide (HB0.out.step hb1); clear p0 p1 p2 p3 p4 p5 hb1; obtain ⟨p0, p1, p2, p3, p4, p5⟩ := HB1.out.cli.cells) | (go_at_call 41; (refine (HO.out _).mono ?_); rintro e w2 ⟨rfl, hb2⟩; have hal := (Below.refl w1.heap.size w1).alloc (Nat.le_refl _) (.cells #[.int .i64 T9, .int .i64 c.repl, .int .i64 2, .int .i64 x, .int .i64 0, .string nm, .string vl] 30); have HB2 := hide ((HB1.out.step hal).step hb2); have HP2 := hide ((hb2.block w1.heap.size (by simp)).trans (heap_alloc_new w1 (.cells #[.int .i64 T9, .int .i64 c.repl, .int .i64 2, .int .i64 x, .int .i64 0, .string nm, .string vl] 30))); clear p0 p1 p2 p3 p4 p5 hb2 hal; obtain ⟨p0, p1, p2, p3, p4, p5⟩ := HB2.out.cli.cells; obtain ⟨q0, q1, q2, q3, q4, q5, q6⟩ := op7c HP2.out) | (go_at_call 43; (refine (HOF.out _ HB2.out.cli.2).mono ?_); rintro e w3 ⟨v, dd, rfl, hts, hdb, hb3⟩; obtain ⟨ao1, c1, rfl, hc1, _⟩ := owns_atN hts.row; have HB3 := hide (HB2.out.step hb3); have HTn := hide hts.nodesAt; have HDb := hide hdb; have HTR := hide (tree_of_tof HLg.out hdb); have HP3 := hide ((hb3.block _ (Array.getElem?_eq_some_iff.1 HP2.out).1).trans HP2.out); clear p0 p1 p2 p3 p4 p5 q0 q1 q2 q3 q4 q5 q6 hts hdb hb3 hc1; obtain ⟨p0, p1, p2, p3, p4, p5⟩ := HB3.out.cli.cells; obtain ⟨q0, q1, q2, q3, q4, q5, q6⟩ := op7c HP3.out) | (go_at_call 52; have hmy := sAt_any dd ao1 c1 x w3 (by have := HTR.out.1; unfold maxLen; omega) HTn.out; have hsg : decide (atI dd x < 0) = _ := (atI_neg dd x).trans (congrArg not ((nodOf_alike HDb.out x).trans HCD.out)); (refine hmy.mono ?_); rintro e w4 ⟨rfl, hb4⟩; have HB4 := hide (HB3.out.step hb4); have HP4 := hide ((hb4.block _ (Array.getElem?_eq_some_iff.1 HP3.out).1).trans HP3.out); simp only [Bool.not_true] at hsg; clear p0 p1 p2 p3 p4 p5 q0 q1 q2 q3 q4 q5 q6 hb4 hmy; obtain ⟨p0, p1, p2, p3, p4, p5⟩ := HB4.out.cli.cells; obtain ⟨q0, q1, q2, q3, q4, q5, q6⟩ := op7c HP4.out) | (go_at_call 44; (refine (HFu.out _).mono ?_); rintro e w5 ⟨rfl, hb5⟩; have HB5 := hide (HB4.out.step hb5); have HP5 := hide ((hb5.block _ (Array.getElem?_eq_some_iff.1 HP4.out).1).trans HP4.out); clear p0 p1 p2 p3 p4 p5 q0 q1 q2 q3 q4 q5 q6 hb5; obtain ⟨p0, p1, p2, p3, p4, p5⟩ := HB5.out.cli.cells; obtain ⟨q0, q1, q2, q3, q4, q5, q6⟩ := op7c HP5.out) | (go_at_call 45; (refine (HPu.out _ HB5.out.cli.2).mono ?_); intro e w6 h6; obtain ⟨xl, xlc, xo, xoc, he, hL, hO, hx1, hx2, hb6⟩ := h6; dsimp only [OutV.agg, putC] at he; subst he; have HB6 := hide (HB5.out.step hb6); have HX := hide (And.intro hL (And.intro hO (And.intro hx1 hx2))); clear p0 p1 p2 p3 p4 p5 q0 q1 q2 q3 q4 q5 q6 hL hO hx1 hx2 hb6; obtain ⟨r0, r1, r2, r3, r4, r5, r6, r7, r8, r9, r10, r11, r12, r13, r14, fr⟩ := fif HB6.out.res) | fail)
  obtain ⟨hL, hO, hl1, hl2⟩ := HX.out
  have hh := HB5.out.lt
  refine bodyPost_ret (v := .agg #[.int .i64 c.repl, .int .i64 T9, .slice xl (c.log ++ [(⟨T9, c.repl, 2, x, 0, nm, vl⟩ : OpV)]).length xlc, .int .i64 c.acked, .slice xo (c.out ++ [(⟨T9, c.repl, 2, x, 0, nm, vl⟩ : OpV)]).length xoc, .int .i64 c.got, .int .i64 T9, .int .i64 c.repl, .int .i64 2, .int .i64 x, .int .i64 0, .string nm, .string vl, .int .i64 0, .int .i64 0]) (by simp [results, Tryz.results18, go_sem, r0, r1, r2, r3, r4, r5, r6, r7, r8, r9, r10, r11, r12, r13, r14]) rfl ⟨xl, xlc, xo, xoc, rfl, OpsAt.set15 hL (fun a e => by have := hl1 a e; omega) _ _ _ _ _ _ _ _ _ _ _ _ _ _ _, OpsAt.set15 hO (fun a e => by have := hl2 a e; omega) _ _ _ _ _ _ _ _ _ _ _ _ _ _ _, below15 HB6.out.cli.2 (by omega) _ _ _ _ _ _ _ _ _ _ _ _ _ _ _⟩
end Go.Proofs.YtfkgmkcndchkjaaGreatDoor.OpR
namespace Go.Proofs.YtfkgmkcndchkjaaGreatDoor.OpR
open Go.ChangeShapes Go.WideShapes Go.ChangeAt Go.RowKit
set_option linter.unusedVariables false

def moveO (c : CliV) (x p : Int) (nm : ByteArray) : OpV := ⟨c.clock + 1, c.repl, 1, x, p, nm, ⟨#[]⟩⟩
def setO (c : CliV) (x : Int) (nm vl : ByteArray) : OpV := ⟨c.clock + 1, c.repl, 2, x, 0, nm, vl⟩
theorem full_b {c : CliV} {b : Bool} (h : (decide (30 ≤ c.out.length) || decide (150 ≤ c.log.length)) = b) : b = true ↔ (30 ≤ c.out.length ∨ 150 ≤ c.log.length) := by
  rw [← h]
  simp
theorem admit_mv (c : CliV) (x p : Int) (nm : ByteArray) : admit c.log (moveO c x p nm) = mayCode (tof c.log) x p := by
  unfold admit moveO
  rw [if_pos rfl]
theorem admit_st (c : CliV) (x : Int) (nm vl : ByteArray) : admit c.log (setO c x nm vl) = if (nodOf (tof c.log) x).isSome then 0 else 6 := by
  unfold admit setO
  rw [if_neg (show ¬ (2 : Int) = 1 by decide)]
/-- What spec.Move answers. -/
theorem sMoveC_any (c : CliV) (la oa : Option Addr) (lc oc : Nat) (x p : Int) (nm : ByteArray) (w : World) (hz : CSz maxLen c) (hA : OpsAt w la c.log) (hC : OpsAt w oa c.out) (hnm : nm.size ≤ maxLen) :
    Calls Tryz.prog 10 #[c.agg la lc oa oc, .int .i64 x, .int .i64 p, .string nm] w fun e w' => STold w w' e (actRes c (moveO c x p nm)) := by
  by_cases h0 : 8000 < nm.size
  · rw [act_size (o := moveO c x p nm) (.inl h0)]
    exact smv_size1 c la oa lc oc x p nm w hz hA hC hnm h0
  have hs : ¬ (8000 < (moveO c x p nm).name.size ∨ 8000 < (moveO c x p nm).value.size) := by
    rintro (h | h)
    · exact h0 h
    · exact absurd h (by show ¬ 8000 < (0 : Nat); omega)
  cases hcr : cliRight c
  · rw [act_form hs hcr]
    exact smv_form c la oa lc oc x p nm w hz hA hC hnm h0 hcr
  have hR := (cliR_iff c).1 hcr
  by_cases ht : 1000000 ≤ c.clock
  · rw [act_time hs hcr (by have := hR.clock.2; omega)]
    exact smv_time c la oa lc oc x p nm w hz hA hC hnm h0 hcr ht
  have ht' : ¬ c.clock = 1000000 := by omega
  cases hop : opRight (moveO c x p nm)
  · rw [act_wrong hs hcr ht' hop]
    exact smv_wrong c la oa lc oc x p nm w hz hA hC hnm h0 hcr ht hop
  obtain ⟨CD, hcd⟩ : ∃ CD, mayCode (tof c.log) x p = CD := ⟨_, rfl⟩
  have had := admit_mv c x p nm
  rw [hcd] at had
  by_cases hc0 : CD = 0
  · rw [hc0] at had
    cases hfu : (decide (30 ≤ c.out.length) || decide (150 ≤ c.log.length))
    · rw [act_put hs hcr ht' hop had (by rw [← full_b hfu]; decide)]
      exact smv_ok c la oa lc oc x p nm w hz hA hC hnm h0 hcr ht hop CD hcd hc0 hfu
    · rw [act_full hs hcr ht' hop had ((full_b hfu).1 rfl)]
      exact smv_full c la oa lc oc x p nm w hz hA hC hnm h0 hcr ht hop CD hcd hc0 hfu
  · rw [act_place hs hcr ht' hop (by rw [had]; exact hc0), had]
    exact smv_place c la oa lc oc x p nm w hz hA hC hnm h0 hcr ht hop CD hcd hc0
/-- What spec.Set answers. -/
theorem sSetC_any (c : CliV) (la oa : Option Addr) (lc oc : Nat) (x : Int) (nm vl : ByteArray) (w : World) (hz : CSz maxLen c) (hA : OpsAt w la c.log) (hC : OpsAt w oa c.out) (hnm : nm.size ≤ maxLen) (hvl : vl.size ≤ maxLen) :
    Calls Tryz.prog 18 #[c.agg la lc oa oc, .int .i64 x, .string nm, .string vl] w fun e w' => STold w w' e (actRes c (setO c x nm vl)) := by
  by_cases h0 : 8000 < nm.size
  · rw [act_size (o := setO c x nm vl) (.inl h0)]
    exact sst_size1 c la oa lc oc x nm vl w hz hA hC hnm hvl h0
  by_cases h00 : 8000 < vl.size
  · rw [act_size (o := setO c x nm vl) (.inr h00)]
    exact sst_size2 c la oa lc oc x nm vl w hz hA hC hnm hvl h0 h00
  have hs : ¬ (8000 < (setO c x nm vl).name.size ∨ 8000 < (setO c x nm vl).value.size) := by
    rintro (h | h)
    · exact h0 h
    · exact h00 h
  cases hcr : cliRight c
  · rw [act_form hs hcr]
    exact sst_form c la oa lc oc x nm vl w hz hA hC hnm hvl h0 h00 hcr
  have hR := (cliR_iff c).1 hcr
  by_cases ht : 1000000 ≤ c.clock
  · rw [act_time hs hcr (by have := hR.clock.2; omega)]
    exact sst_time c la oa lc oc x nm vl w hz hA hC hnm hvl h0 h00 hcr ht
  have ht' : ¬ c.clock = 1000000 := by omega
  cases hop : opRight (setO c x nm vl)
  · rw [act_wrong hs hcr ht' hop]
    exact sst_wrong c la oa lc oc x nm vl w hz hA hC hnm hvl h0 h00 hcr ht hop
  have had := admit_st c x nm vl
  cases hcd : (nodOf (tof c.log) x).isSome
  · rw [hcd] at had
    rw [act_place hs hcr ht' hop (by rw [had]; decide), had]
    exact sst_place c la oa lc oc x nm vl w hz hA hC hnm hvl h0 h00 hcr ht hop hcd
  · rw [hcd] at had
    cases hfu : (decide (30 ≤ c.out.length) || decide (150 ≤ c.log.length))
    · rw [act_put hs hcr ht' hop had (by rw [← full_b hfu]; decide)]
      exact sst_ok c la oa lc oc x nm vl w hz hA hC hnm hvl h0 h00 hcr ht hop hcd hfu
    · rw [act_full hs hcr ht' hop had ((full_b hfu).1 rfl)]
      exact sst_full c la oa lc oc x nm vl w hz hA hC hnm hvl h0 h00 hcr ht hop hcd hfu
end Go.Proofs.YtfkgmkcndchkjaaGreatDoor.OpR
namespace Go.Proofs.YtfkgmkcndchkjaaGreatDoor.OpR
open Go.ChangeShapes Go.WideShapes Go.ChangeAt Go.RowKit
set_option linter.unusedVariables false

theorem put_sz {c : CliV} {o : OpV} (hz : CSz 1048576 c) (ho : opRight o = true) (hR : CliR c) : CSz 1048576 (putC c o) := by
  have h1 := hR.log.2.1
  have h2 := hR.few
  have h3 := right_sizes ho
  refine ⟨?_, ?_, fun y hy => ?_, fun y hy => ?_⟩
  · show (c.log ++ [o]).length ≤ _; rw [List.length_append]; show _ + 1 ≤ _; omega
  · show (c.out ++ [o]).length ≤ _; rw [List.length_append]; show _ + 1 ≤ _; omega
  · rcases List.mem_append.1 hy with h | h
    · exact hz.lsz y h
    · rw [List.mem_singleton.1 h]; exact h3
  · rcases List.mem_append.1 hy with h | h
    · exact hz.osz y h
    · rw [List.mem_singleton.1 h]; exact h3
/-- What impl.Move answers. -/
theorem iMoveC_any (c : CliV) (la oa : Option Addr) (lc oc : Nat) (x p : Int) (nm : ByteArray) (w : World) {f : Nat → Addr} (hS : Sents w f) (hz : CSz 1048576 c) (hlc : c.log.length ≤ lc) (hA : OpsAt w la c.log) (hC : OpsAt w oa c.out) (hnm : nm.size ≤ maxLen) :
    Calls Tryz.prog 12 #[c.agg la lc oa oc, .int .i64 x, .int .i64 p, .string nm] w fun e w' => ITold w w' e (actRes c (moveO c x p nm)) := by
  have hzm : CSz maxLen c := hz.mono (by unfold maxLen; omega)
  have bad : ∀ (code : Int), ErrCode code → (∀ g W, Below w.heap.size w W → HandAt W g c la lc oa oc → Calls Tryz.prog 47 #[.pointer (some ⟨g, 0, none⟩), .agg #[.int .i64 0, .int .i64 0, .int .i64 1, .int .i64 x, .int .i64 p, .string nm, .string ⟨#[]⟩]] W fun e w' => e = .returned (.tuple #[.agg #[.int .i64 0, .int .i64 0, .int .i64 0, .int .i64 0, .int .i64 0, .string ⟨#[]⟩, .string ⟨#[]⟩], errV f (gOf code)]) ∧ Below W.heap.size W w') →
      Calls Tryz.prog 12 #[c.agg la lc oa oc, .int .i64 x, .int .i64 p, .string nm] w fun e w' => ITold w w' e (OutV.ill code) := fun code hc h =>
    iMove_gen c c la oa lc oc x p nm OpV.zero (errV f (gOf code)) _ w (fun g W hW hH => (h g W hW hH).mono fun e w' h => ⟨la, lc, oa, oc, h.1, hH.step h.2, drewN_grown h.2, (hA.stays hW).stays h.2, (hC.stays hW).stays h.2⟩) (fun la2 lc2 oa2 oc2 W hW _ _ => told_ill (hS.step hW) hc c la2 oa2 lc2 oc2 OpV.zero 0)
  by_cases h0 : 8000 < nm.size
  · rw [act_size (o := (moveO c x p nm)) (.inl h0)]
    exact bad 2 (by unfold ErrCode; omega) fun g W hW hH => hact_size1 c la oa lc oc 1 x p nm ⟨#[]⟩ g W (hS.step hW) hzm hH (hA.stays hW) (hC.stays hW) hnm (by show (0 : Nat) ≤ maxLen; omega) h0
  have hs : ¬ (8000 < (moveO c x p nm).name.size ∨ 8000 < (moveO c x p nm).value.size) := by
    rintro (h | h)
    · exact h0 h
    · exact absurd h (by show ¬ 8000 < (0 : Nat); omega)
  cases hcr : cliRight c
  · rw [act_form hs hcr]
    exact bad 1 (by unfold ErrCode; omega) fun g W hW hH => hact_ill c la oa lc oc 1 x p nm ⟨#[]⟩ g W (hS.step hW) hzm hH (hA.stays hW) (hC.stays hW) hnm (by show (0 : Nat) ≤ maxLen; omega) h0 (by show ¬ 8000 < (0 : Nat); omega) hcr
  have hR := (cliR_iff c).1 hcr
  have hlog := log_yes hR.log
  by_cases ht : c.clock = 1000000
  · rw [act_time hs hcr ht]
    exact bad 9 (by unfold ErrCode; omega) fun g W hW hH => hact_time c la oa lc oc 1 x p nm ⟨#[]⟩ g W (hS.step hW) hzm hH (hA.stays hW) (hC.stays hW) hnm (by show (0 : Nat) ≤ maxLen; omega) h0 (by show ¬ 8000 < (0 : Nat); omega) hcr ht
  cases hop : opRight (moveO c x p nm)
  · rw [act_wrong hs hcr ht hop]
    exact bad 1 (by unfold ErrCode; omega) fun g W hW hH => hact_wrong c la oa lc oc 1 x p nm ⟨#[]⟩ g W (hS.step hW) hzm hH (hA.stays hW) (hC.stays hW) hnm (by show (0 : Nat) ≤ maxLen; omega) h0 (by show ¬ 8000 < (0 : Nat); omega) hcr ht hop
  have had := admit_mv c x p nm
  have hx2 : 2 ≤ x := by
    have h1 := hop
    unfold opRight at h1
    simp only [Bool.and_eq_true] at h1
    have h3 : isIn x 2 1000000 = true := h1.1.1.2
    unfold isIn at h3
    rw [Bool.and_eq_true] at h3
    exact of_decide_eq_true h3.1
  rw [may_is (tree_of_tof hlog rfl) hx2] at had
  cases hpl : placeB (tof c.log) p
  · rw [hpl] at had
    have had6 : admit c.log (moveO c x p nm) = 6 := had
    rw [act_place hs hcr ht hop (by rw [had6]; decide), had6]
    exact bad 6 (by unfold ErrCode; omega) fun g W hW hH => hact_place c la oa lc oc 1 x p nm ⟨#[]⟩ g W (hS.step hW) hzm hH (hA.stays hW) (hC.stays hW) hnm (by show (0 : Nat) ≤ maxLen; omega) h0 (by show ¬ 8000 < (0 : Nat); omega) hcr ht hop 6 (fun W2 hW2 => admits_mv_no c.log (moveO c x p nm) la lc W2 ((hS.step hW).step hW2) hlog hop ((hA.stays hW).stays hW2) hzm.lsz rfl hpl)
  cases hab : aboveB (tof c.log) p x
  case true =>
    rw [hpl, hab] at had
    have hadL : admit c.log (moveO c x p nm) = 10 := had
    rw [act_place hs hcr ht hop (by rw [hadL]; decide), hadL]
    exact bad 10 (by unfold ErrCode; omega) fun g W hW hH => hact_place c la oa lc oc 1 x p nm ⟨#[]⟩ g W (hS.step hW) hzm hH (hA.stays hW) (hC.stays hW) hnm (by show (0 : Nat) ≤ maxLen; omega) h0 (by show ¬ 8000 < (0 : Nat); omega) hcr ht hop 10 (fun W2 hW2 => admits_mv_loop c.log (moveO c x p nm) la lc W2 ((hS.step hW).step hW2) hlog hop ((hA.stays hW).stays hW2) hzm.lsz rfl hpl hab)
  rw [hpl, hab] at had
  have had : admit c.log (moveO c x p nm) = 0 := had
  have hadm : ∀ W, Below w.heap.size w W → Calls Tryz.prog 77 #[.slice la c.log.length lc, (moveO c x p nm).agg] W fun e w' => e = .returned .nilIface ∧ Below W.heap.size W w' := fun W hW => admits_mv_yes c.log (moveO c x p nm) la lc W (hS.step hW) hlog hop (hA.stays hW) hzm.lsz rfl hpl hab
  have hfew := hR.few
  by_cases h30 : c.out.length = 30
  · rw [act_full hs hcr ht hop had (.inl (by omega))]
    exact bad 9 (by unfold ErrCode; omega) fun g W hW hH => hact_full1 c la oa lc oc 1 x p nm ⟨#[]⟩ g W (hS.step hW) hzm hH (hA.stays hW) (hC.stays hW) hnm (by show (0 : Nat) ≤ maxLen; omega) h0 (by show ¬ 8000 < (0 : Nat); omega) hcr ht hop (fun W2 hW2 => hadm W2 (hW.trans (hW2.mono hW.size))) h30
  by_cases h150 : 150 ≤ c.log.length
  · rw [act_full hs hcr ht hop had (.inr h150)]
    exact bad 9 (by unfold ErrCode; omega) fun g W hW hH => hact_full2 c la oa lc oc 1 x p nm ⟨#[]⟩ g W (hS.step hW) hzm hH (hA.stays hW) (hC.stays hW) hnm (by show (0 : Nat) ≤ maxLen; omega) h0 (by show ¬ 8000 < (0 : Nat); omega) hlc hcr ht hop (fun W2 hW2 => hadm W2 (hW.trans (hW2.mono hW.size))) h30 h150
  rw [act_put hs hcr ht hop had (by omega)]
  exact iMove_gen c (putC c (moveO c x p nm)) la oa lc oc x p nm (moveO c x p nm) .nilIface _ w (fun g W hW hH => (hact_ok c la oa lc oc 1 x p nm ⟨#[]⟩ g W (hS.step hW) hzm hH (hA.stays hW) (hC.stays hW) hnm (by show (0 : Nat) ≤ maxLen; omega) h0 (by show ¬ 8000 < (0 : Nat); omega) hlc hcr ht hop (fun W2 hW2 => hadm W2 (hW.trans (hW2.mono hW.size))) h30 h150).mono fun e w' h => by
      obtain ⟨va, oa2, oc2, h1, h2, h3, h4, h5⟩ := h
      exact ⟨va, _, oa2, oc2, h1, h2, h3, h4, h5⟩) (fun la2 lc2 oa2 oc2 W hW h1 h2 => told_ok (putC c (moveO c x p nm)) la2 oa2 lc2 oc2 (moveO c x p nm) 0 W (put_sz hz hop hR) (right_sizes hop) h1 h2)
/-- What impl.Set answers. -/
theorem iSetC_any (c : CliV) (la oa : Option Addr) (lc oc : Nat) (x : Int) (nm vl : ByteArray) (w : World) {f : Nat → Addr} (hS : Sents w f) (hz : CSz 1048576 c) (hlc : c.log.length ≤ lc) (hA : OpsAt w la c.log) (hC : OpsAt w oa c.out) (hnm : nm.size ≤ maxLen) (hvl : vl.size ≤ maxLen) :
    Calls Tryz.prog 19 #[c.agg la lc oa oc, .int .i64 x, .string nm, .string vl] w fun e w' => ITold w w' e (actRes c (setO c x nm vl)) := by
  have hzm : CSz maxLen c := hz.mono (by unfold maxLen; omega)
  have bad : ∀ (code : Int), ErrCode code → (∀ g W, Below w.heap.size w W → HandAt W g c la lc oa oc → Calls Tryz.prog 47 #[.pointer (some ⟨g, 0, none⟩), .agg #[.int .i64 0, .int .i64 0, .int .i64 2, .int .i64 x, .int .i64 0, .string nm, .string vl]] W fun e w' => e = .returned (.tuple #[.agg #[.int .i64 0, .int .i64 0, .int .i64 0, .int .i64 0, .int .i64 0, .string ⟨#[]⟩, .string ⟨#[]⟩], errV f (gOf code)]) ∧ Below W.heap.size W w') →
      Calls Tryz.prog 19 #[c.agg la lc oa oc, .int .i64 x, .string nm, .string vl] w fun e w' => ITold w w' e (OutV.ill code) := fun code hc h =>
    iSet_gen c c la oa lc oc x nm vl OpV.zero (errV f (gOf code)) _ w (fun g W hW hH => (h g W hW hH).mono fun e w' h => ⟨la, lc, oa, oc, h.1, hH.step h.2, drewN_grown h.2, (hA.stays hW).stays h.2, (hC.stays hW).stays h.2⟩) (fun la2 lc2 oa2 oc2 W hW _ _ => told_ill (hS.step hW) hc c la2 oa2 lc2 oc2 OpV.zero 0)
  by_cases h0 : 8000 < nm.size
  · rw [act_size (o := (setO c x nm vl)) (.inl h0)]
    exact bad 2 (by unfold ErrCode; omega) fun g W hW hH => hact_size1 c la oa lc oc 2 x 0 nm vl g W (hS.step hW) hzm hH (hA.stays hW) (hC.stays hW) hnm hvl h0
  by_cases h00 : 8000 < vl.size
  · rw [act_size (o := (setO c x nm vl)) (.inr h00)]
    exact bad 2 (by unfold ErrCode; omega) fun g W hW hH => hact_size2 c la oa lc oc 2 x 0 nm vl g W (hS.step hW) hzm hH (hA.stays hW) (hC.stays hW) hnm hvl h0 h00
  have hs : ¬ (8000 < (setO c x nm vl).name.size ∨ 8000 < (setO c x nm vl).value.size) := by
    rintro (h | h)
    · exact h0 h
    · exact h00 h
  cases hcr : cliRight c
  · rw [act_form hs hcr]
    exact bad 1 (by unfold ErrCode; omega) fun g W hW hH => hact_ill c la oa lc oc 2 x 0 nm vl g W (hS.step hW) hzm hH (hA.stays hW) (hC.stays hW) hnm hvl h0 h00 hcr
  have hR := (cliR_iff c).1 hcr
  have hlog := log_yes hR.log
  by_cases ht : c.clock = 1000000
  · rw [act_time hs hcr ht]
    exact bad 9 (by unfold ErrCode; omega) fun g W hW hH => hact_time c la oa lc oc 2 x 0 nm vl g W (hS.step hW) hzm hH (hA.stays hW) (hC.stays hW) hnm hvl h0 h00 hcr ht
  cases hop : opRight (setO c x nm vl)
  · rw [act_wrong hs hcr ht hop]
    exact bad 1 (by unfold ErrCode; omega) fun g W hW hH => hact_wrong c la oa lc oc 2 x 0 nm vl g W (hS.step hW) hzm hH (hA.stays hW) (hC.stays hW) hnm hvl h0 h00 hcr ht hop
  have had := admit_st c x nm vl
  cases hpl : (nodOf (tof c.log) x).isSome
  · rw [hpl] at had
    have had6 : admit c.log (setO c x nm vl) = 6 := had
    rw [act_place hs hcr ht hop (by rw [had6]; decide), had6]
    exact bad 6 (by unfold ErrCode; omega) fun g W hW hH => hact_place c la oa lc oc 2 x 0 nm vl g W (hS.step hW) hzm hH (hA.stays hW) (hC.stays hW) hnm hvl h0 h00 hcr ht hop 6 (fun W2 hW2 => admits_set_no c.log (setO c x nm vl) la lc W2 ((hS.step hW).step hW2) hlog hop ((hA.stays hW).stays hW2) hzm.lsz rfl hpl)
  rw [hpl] at had
  have had : admit c.log (setO c x nm vl) = 0 := had
  have hadm : ∀ W, Below w.heap.size w W → Calls Tryz.prog 77 #[.slice la c.log.length lc, (setO c x nm vl).agg] W fun e w' => e = .returned .nilIface ∧ Below W.heap.size W w' := fun W hW => admits_set_yes c.log (setO c x nm vl) la lc W (hS.step hW) hlog hop (hA.stays hW) hzm.lsz rfl hpl
  have hfew := hR.few
  by_cases h30 : c.out.length = 30
  · rw [act_full hs hcr ht hop had (.inl (by omega))]
    exact bad 9 (by unfold ErrCode; omega) fun g W hW hH => hact_full1 c la oa lc oc 2 x 0 nm vl g W (hS.step hW) hzm hH (hA.stays hW) (hC.stays hW) hnm hvl h0 h00 hcr ht hop (fun W2 hW2 => hadm W2 (hW.trans (hW2.mono hW.size))) h30
  by_cases h150 : 150 ≤ c.log.length
  · rw [act_full hs hcr ht hop had (.inr h150)]
    exact bad 9 (by unfold ErrCode; omega) fun g W hW hH => hact_full2 c la oa lc oc 2 x 0 nm vl g W (hS.step hW) hzm hH (hA.stays hW) (hC.stays hW) hnm hvl h0 h00 hlc hcr ht hop (fun W2 hW2 => hadm W2 (hW.trans (hW2.mono hW.size))) h30 h150
  rw [act_put hs hcr ht hop had (by omega)]
  exact iSet_gen c (putC c (setO c x nm vl)) la oa lc oc x nm vl (setO c x nm vl) .nilIface _ w (fun g W hW hH => (hact_ok c la oa lc oc 2 x 0 nm vl g W (hS.step hW) hzm hH (hA.stays hW) (hC.stays hW) hnm hvl h0 h00 hlc hcr ht hop (fun W2 hW2 => hadm W2 (hW.trans (hW2.mono hW.size))) h30 h150).mono fun e w' h => by
      obtain ⟨va, oa2, oc2, h1, h2, h3, h4, h5⟩ := h
      exact ⟨va, _, oa2, oc2, h1, h2, h3, h4, h5⟩) (fun la2 lc2 oa2 oc2 W hW h1 h2 => told_ok (putC c (setO c x nm vl)) la2 oa2 lc2 oc2 (setO c x nm vl) 0 W (put_sz hz hop hR) (right_sizes hop) h1 h2)
end Go.Proofs.YtfkgmkcndchkjaaGreatDoor.OpR
namespace Go.Proofs.YtfkgmkcndchkjaaGreatDoor.OpR
open Go.ChangeShapes Go.WideShapes Go.ChangeAt Go.RowKit
set_option linter.unusedVariables false

/-- What is told, in a variable. -/
def Fif (W : World) (g : Nat) (x : OutV) (la : Option Addr) (lc : Nat) (oa : Option Addr) (oc : Nat) : Prop := W.heap[g]? = some (.cells #[.int .i64 x.cl.repl, .int .i64 x.cl.clock, .slice la x.cl.log.length lc, .int .i64 x.cl.acked, .slice oa x.cl.out.length oc, .int .i64 x.cl.got, .int .i64 x.op.time, .int .i64 x.op.repl, .int .i64 x.op.kind, .int .i64 x.op.node, .int .i64 x.op.parent, .string x.op.name, .string x.op.value, .int .i64 x.many, .int .i64 x.code] 32 (0, 0))
theorem Fif.lt {W : World} {g : Nat} {x : OutV} {la : Option Addr} {lc : Nat} {oa : Option Addr} {oc : Nat} (h : Fif W g x la lc oa oc) : g < W.heap.size := (Array.getElem?_eq_some_iff.1 h).1
theorem Fif.step {W W' : World} {g : Nat} {x : OutV} {la : Option Addr} {lc : Nat} {oa : Option Addr} {oc : Nat} (h : Fif W g x la lc oa oc) (hb : Below W.heap.size W W') : Fif W' g x la lc oa oc := (hb.block g h.lt).trans h
theorem Fif.keep {W W' : World} {g : Nat} {x : OutV} {la : Option Addr} {lc : Nat} {oa : Option Addr} {oc : Nat} (h : Fif W g x la lc oa oc) (hb : W'.heap[g]? = W.heap[g]?) : Fif W' g x la lc oa oc := hb.trans h
theorem Fif.new (W : World) (x : OutV) (la : Option Addr) (lc : Nat) (oa : Option Addr) (oc : Nat) : Fif (W.alloc (.cells #[.int .i64 x.cl.repl, .int .i64 x.cl.clock, .slice la x.cl.log.length lc, .int .i64 x.cl.acked, .slice oa x.cl.out.length oc, .int .i64 x.cl.got, .int .i64 x.op.time, .int .i64 x.op.repl, .int .i64 x.op.kind, .int .i64 x.op.node, .int .i64 x.op.parent, .string x.op.name, .string x.op.value, .int .i64 x.many, .int .i64 x.code] 32)) W.heap.size x la lc oa oc := heap_alloc_new W _
theorem Fif.cells {W : World} {g : Nat} {x : OutV} {la : Option Addr} {lc : Nat} {oa : Option Addr} {oc : Nat} (h : Fif W g x la lc oa oc) :
    W.cell? ⟨g, 0, none⟩ = some (.int .i64 x.cl.repl) ∧ W.cell? ⟨g, 1, none⟩ = some (.int .i64 x.cl.clock) ∧ W.cell? ⟨g, 2, none⟩ = some (.slice la x.cl.log.length lc) ∧ W.cell? ⟨g, 3, none⟩ = some (.int .i64 x.cl.acked) ∧ W.cell? ⟨g, 4, none⟩ = some (.slice oa x.cl.out.length oc) ∧ W.cell? ⟨g, 5, none⟩ = some (.int .i64 x.cl.got) ∧ W.cell? ⟨g, 6, none⟩ = some (.int .i64 x.op.time) ∧ W.cell? ⟨g, 7, none⟩ = some (.int .i64 x.op.repl) ∧ W.cell? ⟨g, 8, none⟩ = some (.int .i64 x.op.kind) ∧ W.cell? ⟨g, 9, none⟩ = some (.int .i64 x.op.node) ∧ W.cell? ⟨g, 10, none⟩ = some (.int .i64 x.op.parent) ∧ W.cell? ⟨g, 11, none⟩ = some (.string x.op.name) ∧ W.cell? ⟨g, 12, none⟩ = some (.string x.op.value) ∧ W.cell? ⟨g, 13, none⟩ = some (.int .i64 x.many) ∧ W.cell? ⟨g, 14, none⟩ = some (.int .i64 x.code) ∧ ∀ i, W.frozen? ⟨g, i, none⟩ = false := fif h
set_option maxRecDepth 100000 in
set_option maxHeartbeats 1000000 in
theorem eqClientOut_same (x : OutV) (la oa lb ob : Option Addr) (lc oc ld od : Nat) (w : World) (hl : x.cl.log.length ≤ maxLen) (ho : x.cl.out.length ≤ maxLen) (hA : OpsAt w la x.cl.log) (hC : OpsAt w oa x.cl.out) (hB : OpsAt w lb x.cl.log) (hD : OpsAt w ob x.cl.out) :
    Calls Tryz.prog 13 #[x.agg la lc oa oc, x.agg lb ld ob od] w fun e w' => e = .returned (.bool true) ∧ Below w.heap.size w w' := by
  have h1 := fun W (hW : Below w.heap.size w W) => eqClient_same x.cl la oa lb ob lc oc ld od W hl ho (hA.stays hW) (hC.stays hW) (hB.stays hW) (hD.stays hW)
  have h2 := fun W => eqOp_same x.op W
  have hF := Fif.new w x la lc oa oc
  have hb0 : Below w.heap.size w (w.alloc (.cells #[.int .i64 x.cl.repl, .int .i64 x.cl.clock, .slice la x.cl.log.length lc, .int .i64 x.cl.acked, .slice oa x.cl.out.length oc, .int .i64 x.cl.got, .int .i64 x.op.time, .int .i64 x.op.repl, .int .i64 x.op.kind, .int .i64 x.op.node, .int .i64 x.op.parent, .string x.op.name, .string x.op.value, .int .i64 x.many, .int .i64 x.code] 32)) := (Below.refl _ _).alloc (Nat.le_refl _) _
  have hG := Fif.new (w.alloc (.cells #[.int .i64 x.cl.repl, .int .i64 x.cl.clock, .slice la x.cl.log.length lc, .int .i64 x.cl.acked, .slice oa x.cl.out.length oc, .int .i64 x.cl.got, .int .i64 x.op.time, .int .i64 x.op.repl, .int .i64 x.op.kind, .int .i64 x.op.node, .int .i64 x.op.parent, .string x.op.name, .string x.op.value, .int .i64 x.many, .int .i64 x.code] 32)) x lb ld ob od
  have hb1 := hb0.alloc hb0.size (.cells #[.int .i64 x.cl.repl, .int .i64 x.cl.clock, .slice lb x.cl.log.length ld, .int .i64 x.cl.acked, .slice ob x.cl.out.length od, .int .i64 x.cl.got, .int .i64 x.op.time, .int .i64 x.op.repl, .int .i64 x.op.kind, .int .i64 x.op.node, .int .i64 x.op.parent, .string x.op.name, .string x.op.value, .int .i64 x.many, .int .i64 x.code] 32)
  have HF := hide (hF.step ((Below.refl _ _).alloc (Nat.le_refl _) (.cells #[.int .i64 x.cl.repl, .int .i64 x.cl.clock, .slice lb x.cl.log.length ld, .int .i64 x.cl.acked, .slice ob x.cl.out.length od, .int .i64 x.cl.got, .int .i64 x.op.time, .int .i64 x.op.repl, .int .i64 x.op.kind, .int .i64 x.op.node, .int .i64 x.op.parent, .string x.op.name, .string x.op.value, .int .i64 x.many, .int .i64 x.code] 32)))
  rw [show (w.alloc (.cells #[.int .i64 x.cl.repl, .int .i64 x.cl.clock, .slice la x.cl.log.length lc, .int .i64 x.cl.acked, .slice oa x.cl.out.length oc, .int .i64 x.cl.got, .int .i64 x.op.time, .int .i64 x.op.repl, .int .i64 x.op.kind, .int .i64 x.op.node, .int .i64 x.op.parent, .string x.op.name, .string x.op.value, .int .i64 x.many, .int .i64 x.code] 32)).heap.size = w.heap.size + 1 by simp] at hG
  have HG := hide hG
  have HB := hide hb1
  have H1 := hide h1
  have H2 := hide h2
  obtain ⟨p0, p1, p2, p3, p4, p5, p6, p7, p8, p9, p10, p11, p12, p13, p14, _⟩ := HF.out.cells
  obtain ⟨q0, q1, q2, q3, q4, q5, q6, q7, q8, q9, q10, q11, q12, q13, q14, _⟩ := HG.out.cells
  unfold OutV.agg
  unfold CliV.agg OpV.agg at *
  clear h1 h2 hA hC hB hD hF hG hb0 hb1 hl ho
  go_enter Tryz.func13, Tryz.ntmps13
  go_wp2_with (first | (go_at_call 14; (refine (H1.out _ HB.out).mono ?_); rintro e w1 ⟨rfl, hb1⟩; have HF1 := hide (HF.out.step hb1); have HG1 := hide (HG.out.step hb1); have HB1 := hide (HB.out.trans (hb1.mono HB.out.size)); clear p0 p1 p2 p3 p4 p5 p6 p7 p8 p9 p10 p11 p12 p13 p14 q0 q1 q2 q3 q4 q5 q6 q7 q8 q9 q10 q11 q12 q13 q14 hb1; obtain ⟨p0, p1, p2, p3, p4, p5, p6, p7, p8, p9, p10, p11, p12, p13, p14, _⟩ := HF1.out.cells; obtain ⟨q0, q1, q2, q3, q4, q5, q6, q7, q8, q9, q10, q11, q12, q13, q14, _⟩ := HG1.out.cells) | (go_at_call 49; (refine (H2.out _).mono ?_); rintro e w2 ⟨rfl, hb2⟩; have HF2 := hide (HF1.out.step hb2); have HG2 := hide (HG1.out.step hb2); have HB2 := hide (HB1.out.trans (hb2.mono HB1.out.size)); clear p0 p1 p2 p3 p4 p5 p6 p7 p8 p9 p10 p11 p12 p13 p14 q0 q1 q2 q3 q4 q5 q6 q7 q8 q9 q10 q11 q12 q13 q14 hb2; obtain ⟨p0, p1, p2, p3, p4, p5, p6, p7, p8, p9, p10, p11, p12, p13, p14, _⟩ := HF2.out.cells; obtain ⟨q0, q1, q2, q3, q4, q5, q6, q7, q8, q9, q10, q11, q12, q13, q14, _⟩ := HG2.out.cells) | fail)
  go_ret
  exact ⟨rfl, HB2.out⟩
set_option maxRecDepth 100000 in
set_option maxHeartbeats 1000000 in
theorem markClientOut_any (x : OutV) (la oa : Option Addr) (lc oc : Nat) (w : World) (hl : x.cl.log.length ≤ 1048576) (ho : x.cl.out.length ≤ 1048576) (hM : MarkC w x.cl la oa) :
    Calls Tryz.prog 16 #[x.agg la lc oa oc, .int .i64 1] w fun e w' => e = .returned (.int .i64 ((1 + 7 * x.cl.log.length + 7 * x.cl.out.length : Nat) : Int)) ∧ OpsAt w' la (marks 1 x.cl.log.length) ∧ OpsAt w' oa (marks (1 + 7 * x.cl.log.length) x.cl.out.length) ∧ Marked la oa w w' := by
  have hF := Fif.new w x la lc oa oc
  have hb0 : Below w.heap.size w (w.alloc (.cells #[.int .i64 x.cl.repl, .int .i64 x.cl.clock, .slice la x.cl.log.length lc, .int .i64 x.cl.acked, .slice oa x.cl.out.length oc, .int .i64 x.cl.got, .int .i64 x.op.time, .int .i64 x.op.repl, .int .i64 x.op.kind, .int .i64 x.op.node, .int .i64 x.op.parent, .string x.op.name, .string x.op.value, .int .i64 x.many, .int .i64 x.code] 32)) := (Below.refl _ _).alloc (Nat.le_refl _) _
  have h1 := markClient_any x.cl la oa lc oc 1 _ hl ho (by omega) (by omega) (hM.below hb0)
  rw [show ((1 : Nat) : Int) = 1 from rfl] at h1
  have HB := hide hb0
  have H1 := hide h1
  obtain ⟨p0, p1, p2, p3, p4, p5, p6, p7, p8, p9, p10, p11, p12, p13, p14, _⟩ := hF.cells
  unfold OutV.agg
  unfold CliV.agg at *
  clear h1 hF hb0 hM
  go_enter Tryz.func16, Tryz.ntmps16
  go_wp2_with (first | (go_at_call 15; (refine H1.out.mono ?_); rintro e w1 ⟨rfl, hx, hy, hm⟩; have HX := hide (And.intro hx (And.intro hy hm)); clear hx hy hm p0 p1 p2 p3 p4 p5 p6 p7 p8 p9 p10 p11 p12 p13 p14) | fail)
  go_ret
  obtain ⟨hx, hy, hm⟩ := HX.out
  have hb := HB.out
  exact ⟨rfl, hx, hy, hm.os.trans hb.os, hm.tape.trans hb.tape, hm.output.trans hb.output, Nat.le_trans hb.size hm.size, fun k hk h1 h2 => (hm.block k (by have := hb.size; omega) h1 h2).trans (hb.block k hk)⟩
set_option maxRecDepth 100000 in
set_option maxHeartbeats 1000000 in
theorem heldClientOut_any (x : OutV) (la oa : Option Addr) (lc oc : Nat) (w : World) (hl : x.cl.log.length ≤ 1048576) (ho : x.cl.out.length ≤ 1048576) (hA : OpsAt w la (marks 1 x.cl.log.length)) (hC : OpsAt w oa (marks (1 + 7 * x.cl.log.length) x.cl.out.length)) :
    Calls Tryz.prog 17 #[x.agg la lc oa oc, .int .i64 1] w fun e w' => e = .returned (.int .i64 ((1 + 7 * x.cl.log.length + 7 * x.cl.out.length : Nat) : Int)) ∧ Below w.heap.size w w' := by
  have hF := Fif.new w x la lc oa oc
  have hb0 : Below w.heap.size w (w.alloc (.cells #[.int .i64 x.cl.repl, .int .i64 x.cl.clock, .slice la x.cl.log.length lc, .int .i64 x.cl.acked, .slice oa x.cl.out.length oc, .int .i64 x.cl.got, .int .i64 x.op.time, .int .i64 x.op.repl, .int .i64 x.op.kind, .int .i64 x.op.node, .int .i64 x.op.parent, .string x.op.name, .string x.op.value, .int .i64 x.many, .int .i64 x.code] 32)) := (Below.refl _ _).alloc (Nat.le_refl _) _
  have h1 := heldClient_any x.cl la oa lc oc _ hl ho (hA.stays hb0) (hC.stays hb0)
  obtain ⟨m, hm⟩ : ∃ m : Nat, m = 1 + 7 * x.cl.log.length + 7 * x.cl.out.length := ⟨_, rfl⟩
  rw [← hm] at h1 ⊢
  have hneg : ¬ ((m : Int) < 0) := by omega
  have HB := hide hb0
  have H1 := hide h1
  obtain ⟨p0, p1, p2, p3, p4, p5, p6, p7, p8, p9, p10, p11, p12, p13, p14, _⟩ := hF.cells
  unfold OutV.agg
  unfold CliV.agg at *
  clear h1 hF hb0 hA hC hm
  go_enter Tryz.func17, Tryz.ntmps17
  go_wp2_with (first | (go_at_call 51; (refine H1.out.mono ?_); rintro e w1 ⟨rfl, hb1⟩; have HB1 := hide (HB.out.trans (hb1.mono HB.out.size))) | fail)
  all_goals (try (exfalso; omega))
  all_goals (
    go_ret
    exact ⟨rfl, HB1.out⟩)
end Go.Proofs.YtfkgmkcndchkjaaGreatDoor.OpR
namespace Go.Proofs.YtfkgmkcndchkjaaGreatDoor.OpR
open Go.ChangeShapes Go.WideShapes Go.ChangeAt Go.RowKit
set_option linter.unusedVariables false

theorem CliBox.marked {w W W' : World} {T : TypeId} {c : CliV} {la : Option Addr} {lc : Nat} {oa : Option Addr} {oc : Nat} {xa ya : Option Addr} (h : CliBox w W w.heap.size T c la lc oa oc) (hm : Marked xa ya W W') (h1 : ∀ a, xa = some a → w.heap.size + 1 ≤ a.block) (h2 : ∀ a, ya = some a → w.heap.size + 1 ≤ a.block) : CliBox w W' w.heap.size T c la lc oa oc :=
  ⟨(hm.block _ (Array.getElem?_eq_some_iff.1 h.1).1 (fun a e => by have := h1 a e; omega) (fun a e => by have := h2 a e; omega)).trans h.1, hm.below h.2 h.2.size (fun a e => by have := h1 a e; omega) (fun a e => by have := h2 a e; omega)⟩
theorem MarkOk.block_ {w w' : World} {ao : Option Addr} {n : Nat} (h : MarkOk w ao n) (hb : ∀ a, ao = some a → w'.heap[a.block]? = w.heap[a.block]?) : MarkOk w' ao n := by
  rcases h with ⟨g, N, rfl, hN, cs, e, hn⟩ | h
  · exact .inl ⟨g, N, rfl, hN, cs, (hb _ rfl).trans e, hn⟩
  · exact .inr h
/-- What the specification told, in a variable: all below N. -/
structure WS (N : Nat) (W : World) (V : Nat) (x : OutV) (la : Option Addr) (lc : Nat) (oa : Option Addr) (oc : Nat) : Prop where
  fif : Fif W V x la lc oa oc
  log : OLies N W la x.cl.log
  out : OLies N W oa x.cl.out
  low : V < N
theorem WS.new {W : World} {x : OutV} {la : Option Addr} {lc : Nat} {oa : Option Addr} {oc : Nat} (h1 : OpsAt W la x.cl.log) (h2 : OpsAt W oa x.cl.out) : WS (W.heap.size + 1) (W.alloc (.cells #[.int .i64 x.cl.repl, .int .i64 x.cl.clock, .slice la x.cl.log.length lc, .int .i64 x.cl.acked, .slice oa x.cl.out.length oc, .int .i64 x.cl.got, .int .i64 x.op.time, .int .i64 x.op.repl, .int .i64 x.op.kind, .int .i64 x.op.node, .int .i64 x.op.parent, .string x.op.name, .string x.op.value, .int .i64 x.many, .int .i64 x.code] 32)) W.heap.size x la lc oa oc :=
  ⟨Fif.new W x la lc oa oc, ⟨h1.stays ((Below.refl _ _).alloc (Nat.le_refl _) _), fun hne a e => Nat.lt_succ_of_lt ((OLies.of h1).low hne a e)⟩, ⟨h2.stays ((Below.refl _ _).alloc (Nat.le_refl _) _), fun hne a e => Nat.lt_succ_of_lt ((OLies.of h2).low hne a e)⟩, Nat.lt_succ_self _⟩
theorem WS.step {N : Nat} {W W' : World} {V : Nat} {x : OutV} {la : Option Addr} {lc : Nat} {oa : Option Addr} {oc : Nat} (h : WS N W V x la lc oa oc) (hb : Below W.heap.size W W') : WS N W' V x la lc oa oc := ⟨h.fif.step hb, h.log.stays hb, h.out.stays hb, h.low⟩
theorem OLies.marked {N : Nat} {W W' : World} {ao : Option Addr} {l : List OpV} {xa ya : Option Addr} (h : OLies N W ao l) (hm : Marked xa ya W W') (h1 : ∀ a, xa = some a → N ≤ a.block) (h2 : ∀ a, ya = some a → N ≤ a.block) : OLies N W' ao l :=
  ⟨fun j hj => by
    obtain ⟨b, off, e, hlt, ho⟩ := h.at_ j hj
    have hb := h.low (fun e0 => by rw [e0] at hj; exact absurd hj (by simp)) _ e
    exact ⟨b, off, e, Nat.lt_of_lt_of_le hlt hm.size, ho.block (hm.block b hlt (fun a ea => by have := h1 a ea; simp at hb; omega) (fun a ea => by have := h2 a ea; simp at hb; omega))⟩, h.low⟩
theorem WS.marked {N : Nat} {W W' : World} {V : Nat} {x : OutV} {la : Option Addr} {lc : Nat} {oa : Option Addr} {oc : Nat} {xa ya : Option Addr} (h : WS N W V x la lc oa oc) (hm : Marked xa ya W W') (h1 : ∀ a, xa = some a → N ≤ a.block) (h2 : ∀ a, ya = some a → N ≤ a.block) : WS N W' V x la lc oa oc :=
  ⟨h.fif.keep (hm.block _ h.fif.lt (fun a e => by have := h1 a e; have := h.low; omega) (fun a e => by have := h2 a e; have := h.low; omega)), h.log.marked hm h1 h2, h.out.marked hm h1 h2, h.low⟩
/-- What impl told, in a variable: none of it below N. -/
structure GS (N : Nat) (W : World) (V : Nat) (x : OutV) (gl go : Option Addr) : Prop where
  fif : Fif W V x gl x.cl.log.length go x.cl.out.length
  log : OpsAt W gl x.cl.log
  out : OpsAt W go x.cl.out
  mrk : MarkC W x.cl gl go
  ne1 : ∀ a, gl = some a → N ≤ a.block ∧ a.block < V
  ne2 : ∀ a, go = some a → N ≤ a.block ∧ a.block < V
  low : N ≤ V
theorem GS.new {N : Nat} {W : World} {x : OutV} {gl go : Option Addr} (h1 : OpsAt W gl x.cl.log) (h2 : OpsAt W go x.cl.out) (h3 : MarkC W x.cl gl go) (h4 : ∀ a, gl = some a → N ≤ a.block) (h5 : ∀ a, go = some a → N ≤ a.block) (h6 : N ≤ W.heap.size) : GS N (W.alloc (.cells #[.int .i64 x.cl.repl, .int .i64 x.cl.clock, .slice gl x.cl.log.length x.cl.log.length, .int .i64 x.cl.acked, .slice go x.cl.out.length x.cl.out.length, .int .i64 x.cl.got, .int .i64 x.op.time, .int .i64 x.op.repl, .int .i64 x.op.kind, .int .i64 x.op.node, .int .i64 x.op.parent, .string x.op.name, .string x.op.value, .int .i64 x.many, .int .i64 x.code] 32)) W.heap.size x gl go :=
  have hb := (Below.refl W.heap.size W).alloc (Nat.le_refl _) (.cells #[.int .i64 x.cl.repl, .int .i64 x.cl.clock, .slice gl x.cl.log.length x.cl.log.length, .int .i64 x.cl.acked, .slice go x.cl.out.length x.cl.out.length, .int .i64 x.cl.got, .int .i64 x.op.time, .int .i64 x.op.repl, .int .i64 x.op.kind, .int .i64 x.op.node, .int .i64 x.op.parent, .string x.op.name, .string x.op.value, .int .i64 x.many, .int .i64 x.code] 32)
  ⟨Fif.new W x gl _ go _, h1.stays hb, h2.stays hb, h3.below hb, fun a e => ⟨h4 a e, h3.log.lt a e⟩, fun a e => ⟨h5 a e, h3.out.lt a e⟩, h6⟩
theorem GS.step {N : Nat} {W W' : World} {V : Nat} {x : OutV} {gl go : Option Addr} (h : GS N W V x gl go) (hb : Below W.heap.size W W') : GS N W' V x gl go := ⟨h.fif.step hb, h.log.stays hb, h.out.stays hb, h.mrk.below hb, h.ne1, h.ne2, h.low⟩
theorem GS.marked {N : Nat} {W W' : World} {V : Nat} {x : OutV} {gl go : Option Addr} {xa ya : Option Addr} (h : GS N W V x gl go) (hm : Marked xa ya W W') (h1 : ∀ a, xa = some a → a.block < N) (h2 : ∀ a, ya = some a → a.block < N) : GS N W' V x gl go :=
  have a1 : ∀ a, gl = some a → W'.heap[a.block]? = W.heap[a.block]? := fun a e => hm.block _ (h.mrk.log.lt a e) (fun b eb => by have := h1 b eb; have := (h.ne1 a e).1; omega) (fun b eb => by have := h2 b eb; have := (h.ne1 a e).1; omega)
  have a2 : ∀ a, go = some a → W'.heap[a.block]? = W.heap[a.block]? := fun a e => hm.block _ (h.mrk.out.lt a e) (fun b eb => by have := h1 b eb; have := (h.ne2 a e).1; omega) (fun b eb => by have := h2 b eb; have := (h.ne2 a e).1; omega)
  ⟨h.fif.keep (hm.block _ h.fif.lt (fun b eb => by have := h1 b eb; have := h.low; omega) (fun b eb => by have := h2 b eb; have := h.low; omega)), h.log.block_ hm.size a1, h.out.block_ hm.size a2, ⟨h.mrk.log.block_ a1, h.mrk.out.block_ a2, h.mrk.apart⟩, h.ne1, h.ne2, h.low⟩
/-- The same with its rows marked. -/
structure GM (W : World) (V : Nat) (x : OutV) (gl go : Option Addr) : Prop where
  fif : Fif W V x gl x.cl.log.length go x.cl.out.length
  log : OpsAt W gl (marks 1 x.cl.log.length)
  out : OpsAt W go (marks (1 + 7 * x.cl.log.length) x.cl.out.length)
theorem GS.own {N : Nat} {W W' : World} {V : Nat} {x : OutV} {gl go : Option Addr} (h : GS N W V x gl go) (hm : Marked gl go W W') (h1 : OpsAt W' gl (marks 1 x.cl.log.length)) (h2 : OpsAt W' go (marks (1 + 7 * x.cl.log.length) x.cl.out.length)) : GM W' V x gl go :=
  ⟨h.fif.keep (hm.block _ h.fif.lt (fun a e => by have := (h.ne1 a e).2; omega) (fun a e => by have := (h.ne2 a e).2; omega)), h1, h2⟩
theorem GM.step {W W' : World} {V : Nat} {x : OutV} {gl go : Option Addr} (h : GM W V x gl go) (hb : Below W.heap.size W W') : GM W' V x gl go := ⟨h.fif.step hb, h.log.stays hb, h.out.stays hb⟩
theorem mark_ins {W : World} {c : CliV} {g3 g4 : Nat} (h3 : OpsIn W g3 30 c.log) (h4 : OpsIn W g4 30 c.out) (hne : g3 < g4) : MarkC W c (some ⟨g3, 0, none⟩) (some ⟨g4, 0, none⟩) :=
  ⟨.inl ⟨g3, _, rfl, Nat.le_refl _, opsArr c.log, h3, opsArr_size _⟩, .inl ⟨g4, _, rfl, Nat.le_refl _, opsArr c.out, h4, opsArr_size _⟩, fun x y ex ey => by cases ex; cases ey; show g3 ≠ g4; omega⟩
end Go.Proofs.YtfkgmkcndchkjaaGreatDoor.OpR
namespace Go.Proofs.YtfkgmkcndchkjaaGreatDoor.OpR
open Go.ChangeShapes Go.WideShapes Go.ChangeAt Go.RowKit
set_option linter.unusedVariables false

theorem sent_step {P : Program} {W : World} {n nm : String} {text : List UInt8} {r : List (String × DataW Unit)} {ps : List MemPlace} {g : Nat} {ti tp te ts : TypeId} {ms : Array (String × TypeId)} {f : Field}
    (h : DataW.LaidVars P W ((n, .iface nm (.ptr (.agg [.lit (.string text)]))) :: r) ps)
    (hg : P.globalNamed n = some g) (ht : (P.globals[g]?).map (·.type) = some ti)
    (hi : P.underlying ti = some (.interface ms)) (hrow : ∀ u, P.typeName? 3 u = some nm → u = tp)
    (hp : P.underlying tp = some (.pointer te)) (he : P.underlying te = some (.struct #[f])) (hft : f.type = ts) (hfo : f.offset = 0) (hs : P.underlying ts = some .string) (hc : P.cellsOf te = 1) (hcs : P.cellsOf ts = 1)
    (hrows : ∀ b off, MemPlace.cell b off ∈ ps → (∃ c t, W.heap[b]? = some (.cells c t (0, 0))) ∧ ∀ u v, W.cell? ⟨b, off, none⟩ = some (.iface u v) → Value.okWide P W .any 0 u v) :
    ∃ a q, DataW.LaidVars P W r q ∧ ps = .cell g 0 :: .cell a.block a.off :: q ∧ W.var? P n = some #[.iface tp (.pointer (some a))] ∧ ∃ c t, W.heap[a.block]? = some (.cells c t (0, 0)) := by
  obtain ⟨g', t', cs, fu, p, q, hg', ht', hv, hd, hq, e⟩ := h
  obtain rfl := Option.some.inj (hg.symm.trans hg')
  obtain rfl := Option.some.inj (ht.symm.trans ht')
  subst e
  obtain ⟨l⟩ := cs
  have ok : ∀ u v, l = [.iface u v] → Value.okWide P W .any 0 u v := fun u v e => by
    subst e
    exact (hrows g 0 (by simp [MemPlace.row])).2 u v (by simpa using World.var?_cell hg' hv 0)
  obtain ⟨a, s, rfl, hc0, hs0, hz0, rfl⟩ := errorString_of_trod hi hrow hp he hft hfo hs hc hcs hd ok
  exact ⟨a, q, hq, by simp [MemPlace.row], hv, (hrows a.block a.off (by simp [MemPlace.row])).1⟩
theorem seven_g {g : Nat} (h : g < 7) : g = 0 ∨ g = 1 ∨ g = 2 ∨ g = 3 ∨ g = 4 ∨ g = 5 ∨ g = 6 := by omega
def posE (g : Nat) : Nat := if g = 0 then 0 else if g = 1 then 1 else if g = 2 then 5 else if g = 3 then 2 else if g = 4 then 6 else if g = 5 then 3 else if g = 6 then 4 else g
theorem posE_lt : ∀ g, g < 7 → posE g < 7 := by decide
theorem posE_ne : ∀ g, g < 7 → ∀ h, h < 7 → g ≠ h → posE g ≠ posE h := by decide
theorem star_es : "*" ++ "errors.errorString" = "*errors.errorString" := by decide
theorem rowE (u : TypeId) (h : Tryz.prog.typeName? 3 u = some "*errors.errorString") : u = 235 :=
  typeName_ptr_named (nm := "errors.errorString") (by rw [star_es]; kernel_rfl) (by kernel_rfl) (by decide) u (by rw [star_es]; exact h)
theorem cellsES : Tryz.prog.cellsOf 258 = 1 := by kernel_rfl
theorem cellsSt : Tryz.prog.cellsOf 9 = 1 := by kernel_rfl
theorem varE_block {P : Program} {W W' : World} {n : String} {g : Nat} (hg : P.globalNamed n = some g) (hb : W'.heap[g]? = W.heap[g]?) : W'.var? P n = W.var? P n := by
  simp [World.var?, hg, hb]

theorem gn0 : Tryz.prog.globalNamed "loop.example/g00378/impl.errTooLong" = some 0 := by kernel_rfl
theorem gt0 : (Tryz.prog.globals[0]?).map (·.type) = some 80 := by kernel_rfl
theorem gn1 : Tryz.prog.globalNamed "loop.example/g00378/impl.errNotRight" = some 1 := by kernel_rfl
theorem gt1 : (Tryz.prog.globals[1]?).map (·.type) = some 80 := by kernel_rfl
theorem gn2 : Tryz.prog.globalNamed "loop.example/g00378/impl.errNoRoom" = some 2 := by kernel_rfl
theorem gt2 : (Tryz.prog.globals[2]?).map (·.type) = some 80 := by kernel_rfl
theorem gn3 : Tryz.prog.globalNamed "loop.example/g00378/impl.errNoSuch" = some 3 := by kernel_rfl
theorem gt3 : (Tryz.prog.globals[3]?).map (·.type) = some 80 := by kernel_rfl
theorem gn4 : Tryz.prog.globalNamed "loop.example/g00378/impl.errLoop" = some 4 := by kernel_rfl
theorem gt4 : (Tryz.prog.globals[4]?).map (·.type) = some 80 := by kernel_rfl
theorem gn5 : Tryz.prog.globalNamed "loop.example/g00378/impl.errAnother" = some 5 := by kernel_rfl
theorem gt5 : (Tryz.prog.globals[5]?).map (·.type) = some 80 := by kernel_rfl
theorem gn6 : Tryz.prog.globalNamed "loop.example/g00378/impl.errPlace" = some 6 := by kernel_rfl
theorem gt6 : (Tryz.prog.globals[6]?).map (·.type) = some 80 := by kernel_rfl
/-- The seven variables, and what they lead to. -/
structure Vars7 (W : World) (f : Nat → Addr) : Prop where
  v0 : W.var? Tryz.prog "loop.example/g00378/impl.errTooLong" = some #[.iface 235 (.pointer (some (f 0)))]
  v1 : W.var? Tryz.prog "loop.example/g00378/impl.errNotRight" = some #[.iface 235 (.pointer (some (f 1)))]
  v2 : W.var? Tryz.prog "loop.example/g00378/impl.errNoRoom" = some #[.iface 235 (.pointer (some (f 2)))]
  v3 : W.var? Tryz.prog "loop.example/g00378/impl.errNoSuch" = some #[.iface 235 (.pointer (some (f 3)))]
  v4 : W.var? Tryz.prog "loop.example/g00378/impl.errLoop" = some #[.iface 235 (.pointer (some (f 4)))]
  v5 : W.var? Tryz.prog "loop.example/g00378/impl.errAnother" = some #[.iface 235 (.pointer (some (f 5)))]
  v6 : W.var? Tryz.prog "loop.example/g00378/impl.errPlace" = some #[.iface 235 (.pointer (some (f 6)))]
theorem Vars7.step {W W' : World} {f : Nat → Addr} (h : Vars7 W f) (hb : ∀ g, g < 7 → W'.heap[g]? = W.heap[g]?) : Vars7 W' f :=
  ⟨(varE_block gn0 (hb 0 (by omega))).trans h.v0, (varE_block gn1 (hb 1 (by omega))).trans h.v1, (varE_block gn2 (hb 2 (by omega))).trans h.v2, (varE_block gn3 (hb 3 (by omega))).trans h.v3, (varE_block gn4 (hb 4 (by omega))).trans h.v4, (varE_block gn5 (hb 5 (by omega))).trans h.v5, (varE_block gn6 (hb 6 (by omega))).trans h.v6⟩
theorem sents_of_laid {W : World} (h : laidMet Tryz.prog Rows.fnExactMoveRow.laid W) : ∃ f, Sents W f ∧ Vars7 W f := by
  obtain ⟨ps, hl, hnd, hrows⟩ := h
  obtain ⟨a0, q0, hl, e0, v0, b0⟩ := sent_step hl gn0 gt0 Tryz.underlying80 rowE Tryz.underlying235 Tryz.underlying258 rfl rfl Tryz.underlying9 cellsES cellsSt hrows
  have hr1 : ∀ b off, MemPlace.cell b off ∈ q0 → _ := fun b off hm => hrows b off (by rw [e0]; exact List.mem_cons_of_mem _ (List.mem_cons_of_mem _ hm))
  obtain ⟨a1, q1, hl, e1, v1, b1⟩ := sent_step hl gn1 gt1 Tryz.underlying80 rowE Tryz.underlying235 Tryz.underlying258 rfl rfl Tryz.underlying9 cellsES cellsSt (fun b off hm => hr1 b off hm)
  have hr2 : ∀ b off, MemPlace.cell b off ∈ q1 → _ := fun b off hm => hr1 b off (by rw [e1]; exact List.mem_cons_of_mem _ (List.mem_cons_of_mem _ hm))
  obtain ⟨a3, q2, hl, e2, v3, b3⟩ := sent_step hl gn3 gt3 Tryz.underlying80 rowE Tryz.underlying235 Tryz.underlying258 rfl rfl Tryz.underlying9 cellsES cellsSt (fun b off hm => hr2 b off hm)
  have hr3 : ∀ b off, MemPlace.cell b off ∈ q2 → _ := fun b off hm => hr2 b off (by rw [e2]; exact List.mem_cons_of_mem _ (List.mem_cons_of_mem _ hm))
  obtain ⟨a5, q3, hl, e3, v5, b5⟩ := sent_step hl gn5 gt5 Tryz.underlying80 rowE Tryz.underlying235 Tryz.underlying258 rfl rfl Tryz.underlying9 cellsES cellsSt (fun b off hm => hr3 b off hm)
  have hr4 : ∀ b off, MemPlace.cell b off ∈ q3 → _ := fun b off hm => hr3 b off (by rw [e3]; exact List.mem_cons_of_mem _ (List.mem_cons_of_mem _ hm))
  obtain ⟨a6, q4, hl, e4, v6, b6⟩ := sent_step hl gn6 gt6 Tryz.underlying80 rowE Tryz.underlying235 Tryz.underlying258 rfl rfl Tryz.underlying9 cellsES cellsSt (fun b off hm => hr4 b off hm)
  have hr5 : ∀ b off, MemPlace.cell b off ∈ q4 → _ := fun b off hm => hr4 b off (by rw [e4]; exact List.mem_cons_of_mem _ (List.mem_cons_of_mem _ hm))
  obtain ⟨a2, q5, hl, e5, v2, b2⟩ := sent_step hl gn2 gt2 Tryz.underlying80 rowE Tryz.underlying235 Tryz.underlying258 rfl rfl Tryz.underlying9 cellsES cellsSt (fun b off hm => hr5 b off hm)
  have hr6 : ∀ b off, MemPlace.cell b off ∈ q5 → _ := fun b off hm => hr5 b off (by rw [e5]; exact List.mem_cons_of_mem _ (List.mem_cons_of_mem _ hm))
  obtain ⟨a4, q6, hl, e6, v4, b4⟩ := sent_step hl gn4 gt4 Tryz.underlying80 rowE Tryz.underlying235 Tryz.underlying258 rfl rfl Tryz.underlying9 cellsES cellsSt (fun b off hm => hr6 b off hm)
  have hr7 : ∀ b off, MemPlace.cell b off ∈ q6 → _ := fun b off hm => hr6 b off (by rw [e6]; exact List.mem_cons_of_mem _ (List.mem_cons_of_mem _ hm))
  have e7 : q6 = [] := hl
  rw [e0, e1, e2, e3, e4, e5, e6, e7] at hnd
  have hp : ([a0, a1, a3, a5, a6, a2, a4].map fun a => MemPlace.cell a.block a.off).Nodup := List.Pairwise.sublist (by
    simp only [List.map]
    exact (.cons _ (.cons_cons _ (.cons _ (.cons_cons _ (.cons _ (.cons_cons _ (.cons _ (.cons_cons _ (.cons _ (.cons_cons _ (.cons _ (.cons_cons _ (.cons _ (.cons_cons _ .slnil))))))))))))))) hnd
  have hq := List.pairwise_map.1 hp
  obtain ⟨F, hF⟩ : ∃ F : Nat → Addr, F = fun g => ([a0, a1, a3, a5, a6, a2, a4][g]?).getD a0 := ⟨_, rfl⟩
  have fa : ∀ i (hi : i < 7), F i = [a0, a1, a3, a5, a6, a2, a4][i]'(by simpa using hi) := fun i hi => by
    rw [hF]
    rcases seven_g hi with rfl | rfl | rfl | rfl | rfl | rfl | rfl <;> rfl
  have lt : ∀ i j, i < 7 → j < 7 → i < j → F i ≠ F j := fun i j hi hj hij e => by
    refine List.pairwise_iff_getElem.1 hq i j (by simpa using hi) (by simpa using hj) hij ?_
    rw [← fa i hi, ← fa j hj, e]
  obtain ⟨f, hf⟩ : ∃ f : Nat → Addr, f = fun g => F (posE g) := ⟨_, rfl⟩
  have f0 : f 0 = a0 := by rw [hf, hF]; rfl
  have f1 : f 1 = a1 := by rw [hf, hF]; rfl
  have f2 : f 2 = a2 := by rw [hf, hF]; rfl
  have f3 : f 3 = a3 := by rw [hf, hF]; rfl
  have f4 : f 4 = a4 := by rw [hf, hF]; rfl
  have f5 : f 5 = a5 := by rw [hf, hF]; rfl
  have f6 : f 6 = a6 := by rw [hf, hF]; rfl
  have ff : ∀ g, f g = F (posE g) := fun g => by rw [hf]
  have V : Vars7 W f := ⟨by rw [f0]; exact v0, by rw [f1]; exact v1, by rw [f2]; exact v2, by rw [f3]; exact v3, by rw [f4]; exact v4, by rw [f5]; exact v5, by rw [f6]; exact v6⟩
  have C : ∀ g, g < 7 → W.cell? ⟨g, 0, none⟩ = some (.iface 235 (.pointer (some (f g)))) := fun g hg => by
    rcases seven_g hg with rfl | rfl | rfl | rfl | rfl | rfl | rfl
    · simpa using World.var?_cell gn0 V.v0 0
    · simpa using World.var?_cell gn1 V.v1 0
    · simpa using World.var?_cell gn2 V.v2 0
    · simpa using World.var?_cell gn3 V.v3 0
    · simpa using World.var?_cell gn4 V.v4 0
    · simpa using World.var?_cell gn5 V.v5 0
    · simpa using World.var?_cell gn6 V.v6 0
  refine ⟨f, ⟨C, fun g hg => ?_, fun g h hg hh hne => ?_, fun g hg => ?_⟩, V⟩
  · rcases seven_g hg with rfl | rfl | rfl | rfl | rfl | rfl | rfl
    · rw [f0]; exact b0
    · rw [f1]; exact b1
    · rw [f2]; exact b2
    · rw [f3]; exact b3
    · rw [f4]; exact b4
    · rw [f5]; exact b5
    · rw [f6]; exact b6
  · have hpg := posE_lt g hg
    have hph := posE_lt h hh
    rw [ff g, ff h]
    rcases Nat.lt_or_gt_of_ne (posE_ne g hg h hh hne) with h1 | h1
    · exact lt _ _ hpg hph h1
    · exact fun e => lt _ _ hph hpg h1 e.symm
  · rcases Nat.lt_or_ge g W.heap.size with h' | h'
    · exact h'
    · have := C g hg
      simp [World.cell?, Array.getElem?_eq_none h'] at this
end Go.Proofs.YtfkgmkcndchkjaaGreatDoor.OpR
