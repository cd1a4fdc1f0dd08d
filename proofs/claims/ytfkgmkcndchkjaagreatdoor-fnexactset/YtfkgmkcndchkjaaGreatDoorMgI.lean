/- Proves what spec.l03Copy makes. Proves what spec.l03Move does to a tree. A field of a node stored in a row that the call owns; a node put in the place of one of its number. Proves what spec.l03Move does to a tree where the node is there. Proves what spec.l03Move does to a tree where the node is not there. Proves what spec.l03Move does to a right tree. -/
import Derived.Test.YtfkgmkcndchkjaaGreatDoorMgD
import Derived.Test.YtfkgmkcndchkjaaGreatDoorMgB
namespace Go.Proofs.YtfkgmkcndchkjaaGreatDoor.OpR
open Go.ChangeShapes Go.WideShapes Go.ChangeAt Go.RowKit
set_option linter.unusedVariables false

/-- Three variables of a tree's kind: the tree, the answer, the copy. -/
structure CpV (w c : World) (sv rv ov : Value) : Prop where
  below : Below w.heap.size w c
  tv : c.heap[w.heap.size]? = some (.cells #[sv] 72 (0, 0))
  rv : c.heap[w.heap.size + 1]? = some (.cells #[rv] 72 (0, 0))
  ov : c.heap[w.heap.size + 1 + 1]? = some (.cells #[ov] 72 (0, 0))
theorem CpV.lt {w c : World} {sv rv ov : Value} (h : CpV w c sv rv ov) : w.heap.size + 1 + 1 < c.heap.size := (Array.getElem?_eq_some_iff.1 h.ov).1
theorem CpV.step {w c c' : World} {sv rv ov : Value} (h : CpV w c sv rv ov) (hb : Below c.heap.size c c') : CpV w c' sv rv ov :=
  have hl := h.lt
  ⟨h.below.trans (hb.mono h.below.size), (hb.block _ (by omega)).trans h.tv, (hb.block _ (by omega)).trans h.rv, (hb.block _ (by omega)).trans h.ov⟩
theorem CpV.grown {w c c' : World} {sv rv ov : Value} {row : Option Nat} (h : CpV w c sv rv ov) (hg : c.grownBy c' row) (hr : ∀ k, row = some k → w.heap.size + 1 + 1 < k) : CpV w c' sv rv ov := by
  have hl := h.lt
  have hs := h.below.size
  have hne : ∀ k, k ≤ w.heap.size + 1 + 1 → some k ≠ row := fun k hk e => by have := hr k e.symm; omega
  exact ⟨⟨hg.os.trans h.below.os, hg.tape.trans h.below.tape, hg.output.trans h.below.output, Nat.le_trans hs hg.size, fun k hk => (hg.block k (by omega) (hne k (by omega))).trans (h.below.block k hk)⟩, (hg.block _ (by omega) (hne _ (by omega))).trans h.tv, (hg.block _ (by omega) (hne _ (by omega))).trans h.rv, (hg.block _ (by omega) (hne _ (by omega))).trans h.ov⟩
theorem CpV.set {w c : World} {sv rv ov : Value} (h : CpV w c sv rv ov) (x : Value) : CpV w (c.setCell ⟨w.heap.size + 1 + 1, 0, none⟩ x) sv rv x :=
  ⟨h.below.setCell (p := ⟨w.heap.size + 1 + 1, 0, none⟩) (show w.heap.size ≤ w.heap.size + 1 + 1 by omega) _, (Below.heap_setCell _ _ _ _ (show w.heap.size ≠ w.heap.size + 1 + 1 by omega)).trans h.tv, (Below.heap_setCell _ _ _ _ (show w.heap.size + 1 ≠ w.heap.size + 1 + 1 by omega)).trans h.rv, set_block h.ov 0 x⟩
theorem CpV.start (w : World) (sv rv ov : Value) : CpV w (((w.alloc (.cells #[sv] 72)).alloc (.cells #[rv] 72)).alloc (.cells #[ov] 72)) sv rv ov :=
  ⟨(((Below.refl _ _).alloc (Nat.le_refl _) _).alloc (by simp) _).alloc (by simp; omega) _, by
    rw [Below.heap_alloc _ _ _ (by simp; omega), Below.heap_alloc _ _ _ (by simp)]; exact heap_alloc_new w _, mid3 _ _ _ _, last3 _ _ _ _⟩
theorem Box4.grown {w c c' : World} {g : Nat} {n : NodG} {row : Option Nat} (h : Box4 w c g n) (hs : w.heap.size ≤ g) (hg : c.grownBy c' row) (hr : ∀ k, row = some k → g < k) : Box4 w c' g n := by
  have hl := (Array.getElem?_eq_some_iff.1 h.lies).1
  have hne : ∀ k, k ≤ g → some k ≠ row := fun k hk e => by have := hr k e.symm; omega
  exact ⟨⟨hg.os.trans h.below.os, hg.tape.trans h.below.tape, hg.output.trans h.below.output, Nat.le_trans h.below.size hg.size, fun k hk => (hg.block k (by have := h.below.size; omega) (hne k (by omega))).trans (h.below.block k hk)⟩, (hg.block _ hl (hne _ (Nat.le_refl _))).trans h.lies⟩
theorem empty_props (X : World) : (X.alloc (.cells #[] 165)).ownsRow X.heap.size 165 2 (.slice (some ⟨X.heap.size, 0, none⟩) 0 0) 0 [] :=
  World.ownsRow_made X #[] 0 (Nat.le_refl _) (by decide) rfl

end Go.Proofs.YtfkgmkcndchkjaaGreatDoor.OpR
namespace Go.Proofs.YtfkgmkcndchkjaaGreatDoor.OpR
open Go.ChangeShapes Go.WideShapes Go.ChangeAt Go.RowKit
set_option linter.unusedVariables false

/-- A tree of spec's: its nodes in a row that the call owns, the props anywhere above. -/
structure TreeS (w : World) (base : Nat) (v : Value) (l : List NodG) : Prop where
  row : w.ownsRow base 120 4 v l.length (flatG NodG.cells l)
  at_ : ∀ n ∈ l, PropsAt w n.pao n.props
  off : ∀ n ∈ l, n.props ≠ [] → ∀ x, n.pao = some x → base ≤ x.block ∧ v.ownBlock ≠ some x.block
  room : ∀ n ∈ l, n.props.length ≤ n.pcap
theorem TreeOwn.toS {w : World} {base : Nat} {v : Value} {l : List NodG} (h : TreeOwn w base v l) : TreeS w base v l :=
  ⟨h.row, fun n hn => props_own (h.props n hn), fun n hn _ x hx => ⟨(h.blk hn hx).1, h.off n hn x hx⟩, fun n hn => by
    rcases (h.props n hn).2 with ⟨e, hn0⟩ | ⟨g, cap', cur, e, hb, hg, h1, _⟩
    · omega
    · simp only [Value.slice.injEq] at e
      obtain ⟨_, _, rfl⟩ := e
      exact h1⟩
theorem TreeS.stays {w w' : World} {base : Nat} {v : Value} {l : List NodG} (h : TreeS w base v l) (hb : Below w.heap.size w w') : TreeS w' base v l :=
  ⟨owns_stays2 h.row hb, fun n hn => (h.at_ n hn).stays hb, h.off, h.room⟩
theorem TreeS.nodesAt {w : World} {base : Nat} {ao : Option Addr} {cap : Nat} {l : List NodG} (h : TreeS w base (.slice ao l.length cap) l) : NodesAt w ao l := by
  obtain ⟨a, c, e, _, hc⟩ := owns_atN h.row
  simp only [Value.slice.injEq] at e
  obtain ⟨rfl, _, _⟩ := e
  exact hc.nodes h.at_
/-- What a deed done to a tree leaves as it was. -/
structure Chg (w w' : World) (base T : Nat) : Prop where
  os : w'.os = w.os
  tape : w'.tape = w.tape
  output : w'.output = w.output
  size : w.heap.size ≤ w'.heap.size
  block : ∀ k, k < w.heap.size → k < base → k ≠ T → w'.heap[k]? = w.heap[k]?

/-- The variable of an op, behind calls. -/
structure OpB (w c : World) (o : OpV) : Prop where
  below : Below w.heap.size w c
  op : c.heap[w.heap.size]? = some (.cells #[.int .i64 o.time, .int .i64 o.repl, .int .i64 o.kind, .int .i64 o.node, .int .i64 o.parent, .string o.name, .string o.value] 30 (0, 0))
theorem OpB.start (w : World) (o : OpV) : OpB w (w.alloc (.cells #[.int .i64 o.time, .int .i64 o.repl, .int .i64 o.kind, .int .i64 o.node, .int .i64 o.parent, .string o.name, .string o.value] 30)) o := ⟨(Below.refl _ _).alloc (Nat.le_refl _) _, heap_alloc_new w _⟩
theorem OpB.lt {w c : World} {o : OpV} (h : OpB w c o) : w.heap.size < c.heap.size := (Array.getElem?_eq_some_iff.1 h.op).1
theorem OpB.step {w c c' : World} {o : OpV} (h : OpB w c o) (hb : Below c.heap.size c c') : OpB w c' o := ⟨h.below.trans (hb.mono h.below.size), (hb.block _ h.lt).trans h.op⟩
theorem OpB.drew {w c : World} {o : OpV} (h : OpB w c o) : OpB w c.drew o := ⟨h.below.drew, h.op⟩
theorem Chg.of {w w' : World} {base T : Nat} (h : Below w.heap.size w w') : Chg w w' base T := ⟨h.os, h.tape, h.output, h.size, fun k hk _ _ => h.block k hk⟩

set_option maxRecDepth 100000 in
set_option maxHeartbeats 1000000 in
theorem sMove_no (l : List NodG) (ao : Option Addr) (cap : Nat) (o : OpV) (base T : Nat) (w : World) (ht : TreeR l) (hT : w.heap[T]? = some (.cells #[.slice ao l.length cap] 72 (0, 0))) (hS : TreeS w base (.slice ao l.length cap) l) (hm : mayMove l o = false) :
    Calls Tryz.prog 99 #[.pointer (some ⟨T, 0, none⟩), o.agg] w fun e w' => (∃ v, e = .returned v) ∧ Below w.heap.size w w' := by
  have hl : l.length ≤ 150 := ht.1
  have hat := fun W (hW : Below w.heap.size w W) => sAt_any l ao cap o.node W (by unfold maxLen; omega) (hS.nodesAt.stays hW)
  have hmy := fun W (hW : Below w.heap.size w W) => sMay_any l ao cap o.node o.parent W ht (hS.nodesAt.stays hW)
  have hTlt := (Array.getElem?_eq_some_iff.1 hT).1
  have H1 := hide (OpB.start w o)
  have HT := hide hT
  unfold OpV.agg
  have hmc := may_code l o
  unfold mayMove at hm
  rw [← hmc] at hm
  obtain ⟨a, hatI⟩ : ∃ a, atI l o.node = a := ⟨_, rfl⟩
  obtain ⟨c, hcd⟩ : ∃ c, mayCode l o.node o.parent = c := ⟨_, rfl⟩
  rw [hcd] at hm
  simp only [hatI] at hat
  simp only [hcd] at hmy
  have hdec : (c ≠ 0) ∨ (c = 0 ∧ a < 0 ∧ 150 ≤ l.length) := by
    by_cases hc : c = 0
    · right
      refine ⟨hc, ?_⟩
      rcases at_cases l o.node with ⟨ea, en⟩ | ⟨j, hj, ea, en, _⟩
      · rw [en] at hm
        simp [hc] at hm
        exact ⟨by omega, by omega⟩
      · rw [en] at hm
        simp [hc] at hm
    · exact .inl hc
  have HAT := hide hat
  have HMY := hide hmy
  clear hS hat hmy hmc hm hatI hcd ht hT
  haveI : Nonempty (Cls fun W => OpB w W o) := ⟨⟨_, H1.out⟩⟩
  have T0 : ∀ q : (Cls fun W => OpB w W o), q.wd.cell? ⟨T, 0, none⟩ = some (.slice ao l.length cap) := fun q => (cells1 ((q.ok.below.block T hTlt).trans HT.out)).1
  have O3 : ∀ q : (Cls fun W => OpB w W o), q.wd.cell? ⟨w.heap.size, 3, none⟩ = some (.int .i64 o.node) := fun q => (cells7 q.ok.op).2.2.2.1
  have O4 : ∀ q : (Cls fun W => OpB w W o), q.wd.cell? ⟨w.heap.size, 4, none⟩ = some (.int .i64 o.parent) := fun q => (cells7 q.ok.op).2.2.2.2.1
  go_enter Tryz.func99, Tryz.ntmps99
  go_wp2_with fail
  refine wp_region_class (ι := (Cls fun W => OpB w W o)) Cls.wd (by kernel_rfl) (by kernel_rfl) ⟨_, H1.out.drew⟩ rfl ?_
  repeat (go_big_quiet_step (first | (go_at_call 52; rename_i q; refine (HAT.out _ q.ok.below).mono ?_; rintro e w1 ⟨rfl, hw1⟩; exact ⟨rfl, ⟨w1, q.ok.step hw1⟩, rfl⟩)))
  refine wpQuiet_nil ?_
  rintro _ ⟨⟨w4, hV4⟩, rfl⟩
  have HV4 := hide hV4
  clear hV4
  go_wp2_with fail
  rcases hdec with hc | ⟨rfl, ha, h150⟩
  · have hc0 : (c != 0) = true := by simpa using hc
    clear hc
    refine wp_region_class (ι := (Cls fun W => OpB w W o)) Cls.wd (by kernel_rfl) (by kernel_rfl) ⟨_, HV4.out.drew⟩ rfl ?_
    repeat (go_big_quiet_step (first | (go_at_call 42; rename_i q; refine (HMY.out _ q.ok.below).mono ?_; rintro e w1 ⟨rfl, hw1⟩; exact ⟨rfl, ⟨w1, q.ok.step hw1⟩, rfl⟩)))
    refine wpQuiet_nil ?_
    rintro _ ⟨⟨w5, hV5⟩, rfl⟩
    have HV5 := hide hV5
    clear hV5
    go_wp2
    (try simp only [Exit.inBlock, Exit.then])
    refine bodyPost_ret (results_none rfl _ _ _) rfl ?_
    exact ⟨⟨_, rfl⟩, HV5.out.below⟩
  · have h150' : (150 : Int) ≤ (l.length : Int) := by omega
    refine wp_region_class (ι := (Cls fun W => OpB w W o)) Cls.wd (by kernel_rfl) (by kernel_rfl) ⟨_, HV4.out.drew⟩ rfl ?_
    repeat (go_big_quiet_step (first | (go_at_call 42; rename_i q; refine (HMY.out _ q.ok.below).mono ?_; rintro e w1 ⟨rfl, hw1⟩; exact ⟨rfl, ⟨w1, q.ok.step hw1⟩, rfl⟩)))
    refine wpQuiet_nil ?_
    rintro _ ⟨⟨w5, hV5⟩, rfl⟩
    have HV5 := hide hV5
    clear hV5
    go_wp2
    (try simp only [Exit.inBlock, Exit.then])
    refine bodyPost_ret (results_none rfl _ _ _) rfl ?_
    exact ⟨⟨_, rfl⟩, HV5.out.below⟩
end Go.Proofs.YtfkgmkcndchkjaaGreatDoor.OpR
namespace Go.Proofs.YtfkgmkcndchkjaaGreatDoor.OpR
open Go.ChangeShapes Go.WideShapes Go.ChangeAt Go.RowKit
set_option linter.unusedVariables false

theorem ins_set {x : Int} {n : NodG} : ∀ {m : List (Int × NodG)} {j : Nat} (hj : j < m.length), RiseK m → m[j].1 = x → kvIns x n (kvDel m x) = m.set j (x, n)
  | [], j, hj, _, _ => absurd hj (by simp)
  | q :: r, 0, _, hr, h => by
    have hr' := List.pairwise_cons.1 hr
    have hq : q.1 = x := h
    have hd : kvDel (q :: r) x = r := by
      have : kvDel (q :: r) x = kvDel r x := by simp [kvDel, hq]
      rw [this, kvDel_self fun p hp => by have := hr'.1 p hp; omega]
    rw [hd, List.set_cons_zero]
    cases r with
    | nil => rfl
    | cons y s =>
      have := hr'.1 y (by simp)
      rw [kvIns, if_pos (by omega)]
  | q :: r, j + 1, hj, hr, h => by
    have hr' := List.pairwise_cons.1 hr
    have hj' : j < r.length := by simpa using hj
    have hx : r[j].1 = x := h
    have hlt : q.1 < x := by have := hr'.1 _ (List.getElem_mem hj'); omega
    have hd : kvDel (q :: r) x = q :: kvDel r x := by
      have : q.1 ≠ x := by omega
      simp [kvDel, this]
    rw [hd, kvIns, if_neg (by omega), ins_set hj' hr'.2 hx, List.set_cons_succ]
theorem putL_set {l : List NodG} (hr : RisesN l) {n : NodG} {j : Nat} (hj : j < l.length) (h : l[j].id = n.id) : putL l n = l.set j n := by
  unfold putL kvPut
  rw [ins_set (j := j) (by rw [kvOf_len]; exact hj) (riseK_of hr) (by simp [kvOf, h])]
  rw [List.map_set, kvOf_snd]
end Go.Proofs.YtfkgmkcndchkjaaGreatDoor.OpR
namespace Go.Proofs.YtfkgmkcndchkjaaGreatDoor.OpR
open Go.ChangeShapes Go.WideShapes Go.ChangeAt Go.RowKit
set_option linter.unusedVariables false

theorem TreeS.field {w : World} {base g cap : Nat} {l : List NodG} (h : TreeS w base (.slice (some ⟨g, 0, none⟩) l.length cap) l) {j f : Nat} (hj : j < l.length) (hf : f < 4) (u : Value) (x : NodG) (hx : x.cells = l[j].cells.set f u) (hp : x.pao = l[j].pao) (hq : x.props = l[j].props) (hr : x.pcap = l[j].pcap) :
    TreeS (w.setCell ⟨g, j * 4 + f, none⟩ u) base (.slice (some ⟨g, 0, none⟩) (l.set j x).length cap) (l.set j x) := by
  have hm : ∀ n ∈ l.set j x, n ∈ l ∨ n = x := fun n hn => List.mem_or_eq_of_mem_set hn
  have hoff : ∀ n ∈ l.set j x, n.props ≠ [] → ∀ y, n.pao = some y → base ≤ y.block ∧ g ≠ y.block := fun n hn hne y hy => by
    have hh : ∀ n ∈ l, n.props ≠ [] → ∀ y, n.pao = some y → base ≤ y.block ∧ g ≠ y.block := fun n hn hne y hy => by
      have := h.off n hn hne y hy
      exact ⟨this.1, fun e => this.2 (by rw [← e]; rfl)⟩
    rcases hm n hn with hn | rfl
    · exact hh n hn hne y hy
    · exact hh l[j] (List.getElem_mem hj) (by rw [← hq]; exact hne) y (by rw [← hp]; exact hy)
  have hat : ∀ n ∈ l.set j x, PropsAt w n.pao n.props := fun n hn => by
    rcases hm n hn with hn | rfl
    · exact h.at_ n hn
    · rw [hp, hq]; exact h.at_ _ (List.getElem_mem hj)
  refine ⟨?_, fun n hn => ?_, fun n hn hne y hy => ?_, fun n hn => ?_⟩
  · have := owns_store h.row (j * 4 + f) u
    rw [flat_field nod_len l j f hj u x hf hx] at this
    rw [List.length_set]; exact this
  · cases hpn : n.props with
    | nil => exact props_nil _ _
    | cons p r =>
      rw [← hpn]
      exact (hat n hn).set (a := ⟨g, j * 4 + f, none⟩) (fun y hy => Ne.symm (hoff n hn (by rw [hpn]; simp) y hy).2) u
  · have := hoff n hn hne y hy
    exact ⟨this.1, fun e => this.2 (Option.some.inj e)⟩
  · rcases hm n hn with hn | rfl
    · exact h.room n hn
    · rw [hq, hr]; exact h.room _ (List.getElem_mem hj)
/-- No prop of a tree lies in a block; nor does its row. -/
def OffP (T : Nat) (l : List NodG) : Prop := ∀ n ∈ l, n.props ≠ [] → ∀ z, n.pao = some z → z.block ≠ T
structure OffT (T : Nat) (v : Value) (l : List NodG) : Prop where
  row : v.ownBlock ≠ some T
  props : OffP T l
theorem Chg.set {w c : World} {base T : Nat} (h : Chg w c base T) {a : Addr} (ha : base ≤ a.block ∨ a.block = T) (u : Value) : Chg w (c.setCell a u) base T :=
  ⟨h.os, h.tape, h.output, Nat.le_trans h.size (by simp [World.setCell]), fun k hk hb hT => (Below.heap_setCell _ _ _ _ (by omega)).trans (h.block k hk hb hT)⟩
theorem Chg.drew {w c : World} {base T : Nat} (h : Chg w c base T) : Chg w c.drew base T := ⟨h.os, h.tape, h.output, h.size, h.block⟩
theorem TreeS.drew {w : World} {base : Nat} {v : Value} {l : List NodG} (h : TreeS w base v l) : TreeS w.drew base v l := ⟨h.row, h.at_, h.off, h.room⟩

set_option maxRecDepth 100000 in
set_option maxHeartbeats 1000000 in
theorem sMove_at (l : List NodG) (g cap : Nat) (o : OpV) (base T : Nat) (w : World) (ht : TreeR l) (hT : w.heap[T]? = some (.cells #[.slice (some ⟨g, 0, none⟩) l.length cap] 72 (0, 0))) (hS : TreeS w base (.slice (some ⟨g, 0, none⟩) l.length cap) l) (hTg : T ≠ g) (hbg : base ≤ g) (hm : mayCode l o.node o.parent = 0) (j : Nat) (hj : j < l.length) (hat' : atI l o.node = (j : Int)) :
    Calls Tryz.prog 99 #[.pointer (some ⟨T, 0, none⟩), o.agg] w fun e w' => (∃ v, e = .returned v) ∧ w'.heap[T]? = w.heap[T]? ∧ (∃ d, d = l.set j ⟨l[j].id, o.parent, o.name, l[j].props, l[j].pao, l[j].pcap⟩ ∧ TreeS w' base (.slice (some ⟨g, 0, none⟩) d.length cap) d) ∧ Chg w w' base T := by
  have hl : l.length ≤ 150 := ht.1
  have hat := fun W (hW : Below w.heap.size w W) => sAt_any l (some ⟨g, 0, none⟩) cap o.node W (by unfold maxLen; omega) (hS.nodesAt.stays hW)
  have hmy := fun W (hW : Below w.heap.size w W) => sMay_any l (some ⟨g, 0, none⟩) cap o.node o.parent W ht (hS.nodesAt.stays hW)
  have hTlt := (Array.getElem?_eq_some_iff.1 hT).1
  have H1 := hide (OpB.start w o)
  have HT := hide hT
  have HS := hide hS
  unfold OpV.agg
  simp only [hat'] at hat
  simp only [hm] at hmy
  have HAT := hide hat
  have HMY := hide hmy
  have hj0 : (0 : Int) ≤ (j : Int) := by omega
  have hj1 : (j : Int) < (l.length : Int) := by omega
  have hj2 : decide ((j : Int) < 0) = false := by simp
  clear hS hat hmy hm hat' ht hT
  haveI : Nonempty (Cls fun W => OpB w W o) := ⟨⟨_, H1.out⟩⟩
  have T0 : ∀ q : (Cls fun W => OpB w W o), q.wd.cell? ⟨T, 0, none⟩ = some (.slice (some ⟨g, 0, none⟩) l.length cap) := fun q => (cells1 ((q.ok.below.block T hTlt).trans HT.out)).1
  have O3 : ∀ q : (Cls fun W => OpB w W o), q.wd.cell? ⟨w.heap.size, 3, none⟩ = some (.int .i64 o.node) := fun q => (cells7 q.ok.op).2.2.2.1
  have O4 : ∀ q : (Cls fun W => OpB w W o), q.wd.cell? ⟨w.heap.size, 4, none⟩ = some (.int .i64 o.parent) := fun q => (cells7 q.ok.op).2.2.2.2.1
  go_enter Tryz.func99, Tryz.ntmps99
  go_wp2_with fail
  refine wp_region_class (ι := (Cls fun W => OpB w W o)) Cls.wd (by kernel_rfl) (by kernel_rfl) ⟨_, H1.out.drew⟩ rfl ?_
  repeat (go_big_quiet_step (first | (go_at_call 52; rename_i q; refine (HAT.out _ q.ok.below).mono ?_; rintro e w1 ⟨rfl, hw1⟩; exact ⟨rfl, ⟨w1, q.ok.step hw1⟩, rfl⟩)))
  refine wpQuiet_nil ?_
  rintro _ ⟨⟨w4, hV4⟩, rfl⟩
  have HV4 := hide hV4
  clear hV4
  go_wp2_with fail
  refine wp_region_class (ι := (Cls fun W => OpB w W o)) Cls.wd (by kernel_rfl) (by kernel_rfl) ⟨_, HV4.out.drew⟩ rfl ?_
  repeat (go_big_quiet_step (first | (go_at_call 42; rename_i q; refine (HMY.out _ q.ok.below).mono ?_; rintro e w1 ⟨rfl, hw1⟩; exact ⟨rfl, ⟨w1, q.ok.step hw1⟩, rfl⟩)))
  refine wpQuiet_nil ?_
  rintro w5 ⟨q5, e5⟩
  have hV5 : OpB w w5 o := by rw [e5]; exact q5.ok
  clear e5 q5
  have HV5 := hide hV5
  have hS5 := HS.out.stays hV5.below
  have HS5 := hide hS5
  have t0 : w5.cell? ⟨T, 0, none⟩ = some (.slice (some ⟨g, 0, none⟩) l.length cap) := (cells1 ((hV5.below.block T hTlt).trans HT.out)).1
  obtain ⟨o0, o1, o2, o3, o4, o5, o6⟩ := cells7 hV5.op
  obtain ⟨b', off', e', _, ⟨n0, n1, n2, n3⟩, _⟩ := hS5.nodesAt j hj
  cases e'
  simp only [Nat.zero_add] at n0 n1 n2 n3
  have f1 := row_frozen hS5.row (j * 4 + 1)
  have f2 := row_frozen hS5.row (j * 4 + 2)
  clear hV5 hS5 T0 O3 O4
  go_wp2_with fail
  go_region
  have hglt : g < w.heap.size := (HS.out.row.lt g rfl).2
  have hV6 : ((w5.setCell ⟨g, j * 4 + 1, none⟩ (.int .i64 o.parent)).drew).heap[w.heap.size]? = _ := (Below.heap_setCell _ _ _ _ (show w.heap.size ≠ g by omega)).trans HV5.out.op
  have hT6 : ((w5.setCell ⟨g, j * 4 + 1, none⟩ (.int .i64 o.parent)).drew).heap[T]? = _ := (Below.heap_setCell _ _ _ _ (show T ≠ g by omega)).trans ((HV5.out.below.block T hTlt).trans HT.out)
  have hC6 : Chg w ((w5.setCell ⟨g, j * 4 + 1, none⟩ (.int .i64 o.parent)).drew) base T := ((Chg.of HV5.out.below).set (a := ⟨g, j * 4 + 1, none⟩) (.inl hbg) _).drew
  have hS6 := (HS5.out.field (f := 1) hj (by omega) (.int .i64 o.parent) ⟨l[j].id, o.parent, l[j].name, l[j].props, l[j].pao, l[j].pcap⟩ rfl rfl rfl rfl).drew
  obtain ⟨w6, hw6⟩ : ∃ w6, (w5.setCell ⟨g, j * 4 + 1, none⟩ (.int .i64 o.parent)).drew = w6 := ⟨_, rfl⟩
  rw [hw6] at hV6 hT6 hC6 hS6 ⊢
  have HT6 := hide hT6
  have HC6 := hide hC6
  have HS6 := hide hS6
  clear hw6 t0 o0 o1 o2 o3 o4 o5 o6 n0 n1 n2 n3 f1 f2
  have t0 := (cells1 hT6).1
  obtain ⟨o0, o1, o2, o3, o4, o5, o6⟩ := cells7 hV6
  have f2 := row_frozen hS6.row (j * 4 + 2)
  have n2 : w6.cell? ⟨g, j * 4 + 2, none⟩ = some (.string l[j].name) := by
    obtain ⟨c2, e2, e', _, h2⟩ := owns_atN (l := l.set j ⟨l[j].id, o.parent, l[j].name, l[j].props, l[j].pao, l[j].pcap⟩) hS6.row
    cases e'
    have := (h2.at0N (k := j) (by simpa using hj)).2.2.1
    simpa using this
  clear hV6 hT6 hC6 hS6
  go_wp2_with fail
  go_region
  have hT7 : ((w6.setCell ⟨g, j * 4 + 2, none⟩ (.string o.name)).drew).heap[T]? = _ := (Below.heap_setCell _ _ _ _ (show T ≠ g by omega)).trans HT6.out
  have hC7 : Chg w ((w6.setCell ⟨g, j * 4 + 2, none⟩ (.string o.name)).drew) base T := (HC6.out.set (a := ⟨g, j * 4 + 2, none⟩) (.inl hbg) _).drew
  have hS6 := HS6.out
  have hS7 := (hS6.field (j := j) (f := 2) (by simpa using hj) (by omega) (.string o.name) ⟨l[j].id, o.parent, o.name, l[j].props, l[j].pao, l[j].pcap⟩ (by simp [NodG.cells]) (by simp) (by simp) (by simp)).drew
  rw [List.set_set] at hS7
  go_wp2
  (try simp only [Exit.inBlock, Exit.then])
  refine bodyPost_ret (results_none rfl _ _ _) rfl ?_
  exact ⟨⟨_, rfl⟩, hT7.trans HT.out.symm, ⟨_, rfl, hS7⟩, hC7⟩
end Go.Proofs.YtfkgmkcndchkjaaGreatDoor.OpR
namespace Go.Proofs.YtfkgmkcndchkjaaGreatDoor.OpR
open Go.ChangeShapes Go.WideShapes Go.ChangeAt Go.RowKit
set_option linter.unusedVariables false

theorem empty_nodes (X : World) : (X.alloc (.cells #[] 120)).ownsRow X.heap.size 120 4 (.slice (some ⟨X.heap.size, 0, none⟩) 0 0) ([] : List NodG).length (flatG NodG.cells []) :=
  World.ownsRow_made X #[] 0 (Nat.le_refl _) (by decide) rfl
theorem one_node (W : World) (x : NodG) : NCells (W.alloc (.cells #[.int .i64 x.id, .int .i64 x.parent, .string x.name, .slice x.pao x.props.length x.pcap] 120)) (some ⟨W.heap.size, 0, none⟩) [x] := fun j hj => by
  obtain rfl : j = 0 := by simpa using hj
  have h := cells4 (heap_alloc_new W (.cells #[.int .i64 x.id, .int .i64 x.parent, .string x.name, .slice x.pao x.props.length x.pcap] 120))
  exact ⟨_, _, rfl, by simp, h.1, h.2.1, h.2.2.1, h.2.2.2.1⟩
/-- The two parts of a row, as slices. -/
theorem slices_of {w : World} {base : Nat} {ao : Option Addr} {cap : Nat} {l : List NodG} (h : w.ownsRow base 120 4 (.slice ao l.length cap) l.length (flatG NodG.cells l)) {k : Nat} (hk : k ≤ l.length) :
    ∃ (a1 a2 : Option Addr) (c1 c2 : Nat) (p q : List NodG), (p = l.take k ∧ q = l.drop k) ∧ (∀ W, (Instr.slice 70 (.slice ao l.length cap) none (some (.int .i64 (k : Int))) none).run Tryz.prog W = .ok (.slice a1 p.length c1) W) ∧ (∀ W, (Instr.slice 70 (.slice ao l.length cap) (some (.int .i64 (k : Int))) none none).run Tryz.prog W = .ok (.slice a2 q.length c2) W) ∧ ∀ W, NCells W ao l → NCells W a1 p ∧ NCells W a2 q := by
  have ht : Tryz.prog.underlying 70 = some (.slice (Tryz.prog.elem 70)) := by kernel_rfl
  have hs : ∀ w, (sizeOf (Tryz.prog.elem 70)).run Tryz.prog w = .ok 4 w := fun _ => by kernel_rfl
  have e1 : (l.take k).length = k := by rw [List.length_take]; omega
  have e2 : (l.drop k).length = l.length - k := by rw [List.length_drop]
  rcases h.2 with ⟨e, hn⟩ | ⟨g, cap', cur, e, hb, hg, h1, h2, h3, h4⟩
  · simp only [Value.slice.injEq] at e
    obtain ⟨rfl, _, rfl⟩ := e
    have hk0 : k = 0 := by omega
    have hl0 : l = [] := List.eq_nil_of_length_eq_zero hn
    subst hk0 hl0
    refine ⟨none, none, 0, 0, _, _, ⟨rfl, rfl⟩, fun W => ?_, fun W => ?_, fun W hW => ⟨hW, hW⟩⟩
    · rw [run_slice_h W 70 none _ 0 ht .i64 ((0 : Nat) : Int) (by simp) (by simp), hs]
      simp [Result.andThen, sliced]
    · rw [run_slice_l W 70 none _ 0 ht .i64 ((0 : Nat) : Int) (by simp) (by simp), hs]
      simp [Result.andThen, sliced]
  · simp only [Value.slice.injEq] at e
    obtain ⟨rfl, _, rfl⟩ := e
    refine ⟨some ⟨g, 0, none⟩, some ⟨g, fromN 0 cap k, none⟩, cap, cap - k, _, _, ⟨rfl, rfl⟩, fun W => ?_, fun W => ?_, fun W hW => ⟨hW.take k, hW.from k h1⟩⟩
    · rw [e1, run_slice_h W 70 (some ⟨g, 0, none⟩) l.length cap ht .i64 (k : Int) (by omega) (by omega), hs]
      simp [Result.andThen, sliced, Addr.add]
    · rw [e2]
      exact slice_fromN W g 0 l.length cap k k rfl hk

theorem new_tree {w y : World} {base T X : Nat} {v v3 : Value} {l p q : List NodG} {x : NodG} (hS : TreeS w base v l) (hb : Below w.heap.size w y) (ho : y.ownsRow X 120 4 v3 (p ++ [(⟨x.id, x.parent, x.name, [], none, 0⟩ : NodG)] ++ q).length (flatG NodG.cells (p ++ [(⟨x.id, x.parent, x.name, [], none, 0⟩ : NodG)] ++ q))) (hX : w.heap.size ≤ X) (hTl : T < w.heap.size) (hOT : OffP T l) (hb2 : base ≤ w.heap.size) (hp : ∀ n ∈ p, n ∈ l) (hq : ∀ n ∈ q, n ∈ l) :
    TreeS (y.setCell ⟨T, 0, none⟩ v3) base v3 (p ++ (⟨x.id, x.parent, x.name, [], none, 0⟩ : NodG) :: q) := by
  have e : p ++ [(⟨x.id, x.parent, x.name, [], none, 0⟩ : NodG)] ++ q = p ++ (⟨x.id, x.parent, x.name, [], none, 0⟩ : NodG) :: q := by simp
  rw [e] at ho
  have hm : ∀ n ∈ p ++ (⟨x.id, x.parent, x.name, [], none, 0⟩ : NodG) :: q, n ∈ l ∨ n.props = [] := fun n hn => by
    rcases List.mem_append.1 hn with hn | hn
    · exact .inl (hp n hn)
    · rcases List.mem_cons.1 hn with rfl | hn
      · exact .inr rfl
      · exact .inl (hq n hn)
  refine ⟨owns_lower (ownsRow_setCell_below ho (show T < X by omega) _) (by omega), fun n hn => ?_, fun n hn hne z hz => ?_, fun n hn => ?_⟩
  · cases hpn : n.props with
    | nil => exact props_nil _ _
    | cons a r =>
      have hl := (hm n hn).resolve_right (by rw [hpn]; simp)
      rw [← hpn]
      exact ((hS.at_ n hl).stays hb).set (a := ⟨T, 0, none⟩) (fun z hz => hOT n hl (by rw [hpn]; simp) z hz) _
  · have hl := (hm n hn).resolve_right hne
    refine ⟨(hS.off n hl hne z hz).1, fun e => ?_⟩
    have h1 := (ho.lt _ e).1
    obtain ⟨b, off, e2, hlt, _⟩ := hS.at_ n hl 0 (List.length_pos_iff.2 hne)
    rw [hz] at e2
    have h3 : z.block = b := congrArg Addr.block (Option.some.inj e2)
    omega
  · rcases hm n hn with hl | e
    · exact hS.room n hl
    · rw [e]; simp

set_option maxRecDepth 100000 in
set_option maxHeartbeats 1000000 in
theorem sMove_new (l : List NodG) (ao : Option Addr) (cap : Nat) (o : OpV) (base T : Nat) (w : World) (ht : TreeR l) (hT : w.heap[T]? = some (.cells #[.slice ao l.length cap] 72 (0, 0))) (hS : TreeS w base (.slice ao l.length cap) l) (hOT : OffP T l) (hb2 : base ≤ w.heap.size) (hm : mayCode l o.node o.parent = 0) (hat' : atI l o.node = -1) (hlen : l.length < 150) :
    Calls Tryz.prog 99 #[.pointer (some ⟨T, 0, none⟩), o.agg] w fun e w' => (∃ v, e = .returned v) ∧ ∃ v k, k ≤ l.length ∧ (∀ j (hj : j < l.length), j < k → l[j].id < o.node) ∧ (∀ hk : k < l.length, ¬ l[k].id < o.node) ∧ w'.heap[T]? = some (.cells #[v] 72 (0, 0)) ∧ TreeS w' base v (l.take k ++ ⟨o.node, o.parent, o.name, [], none, 0⟩ :: l.drop k) ∧ (∀ x, v.ownBlock = some x → w.heap.size ≤ x) ∧ Chg w w' base T := by
  have hl : l.length ≤ 150 := ht.1
  have hat := fun W (hW : Below w.heap.size w W) => sAt_any l ao cap o.node W (by unfold maxLen; omega) (hS.nodesAt.stays hW)
  have hmy := fun W (hW : Below w.heap.size w W) => sMay_any l ao cap o.node o.parent W ht (hS.nodesAt.stays hW)
  have hTlt := (Array.getElem?_eq_some_iff.1 hT).1
  have HOT := hide hOT
  clear hOT
  have H1 := hide (OpB.start w o)
  have HT := hide hT
  have HS := hide hS
  unfold OpV.agg
  simp only [hat'] at hat
  simp only [hm] at hmy
  have HAT := hide hat
  have HMY := hide hmy
  have hlen' : ¬ (150 : Int) ≤ (l.length : Int) := by omega
  clear hS hat hmy hm hat' ht hT
  haveI : Nonempty (Cls fun W => OpB w W o) := ⟨⟨_, H1.out⟩⟩
  have T0 : ∀ q : (Cls fun W => OpB w W o), q.wd.cell? ⟨T, 0, none⟩ = some (.slice ao l.length cap) := fun q => (cells1 ((q.ok.below.block T hTlt).trans HT.out)).1
  have O3 : ∀ q : (Cls fun W => OpB w W o), q.wd.cell? ⟨w.heap.size, 3, none⟩ = some (.int .i64 o.node) := fun q => (cells7 q.ok.op).2.2.2.1
  have O4 : ∀ q : (Cls fun W => OpB w W o), q.wd.cell? ⟨w.heap.size, 4, none⟩ = some (.int .i64 o.parent) := fun q => (cells7 q.ok.op).2.2.2.2.1
  go_enter Tryz.func99, Tryz.ntmps99
  go_wp2_with fail
  refine wp_region_class (ι := (Cls fun W => OpB w W o)) Cls.wd (by kernel_rfl) (by kernel_rfl) ⟨_, H1.out.drew⟩ rfl ?_
  repeat (go_big_quiet_step (first | (go_at_call 52; rename_i q; refine (HAT.out _ q.ok.below).mono ?_; rintro e w1 ⟨rfl, hw1⟩; exact ⟨rfl, ⟨w1, q.ok.step hw1⟩, rfl⟩)))
  refine wpQuiet_nil ?_
  rintro _ ⟨⟨w4, hV4⟩, rfl⟩
  have HV4 := hide hV4
  clear hV4
  go_wp2_with fail
  refine wp_region_class (ι := (Cls fun W => OpB w W o)) Cls.wd (by kernel_rfl) (by kernel_rfl) ⟨_, HV4.out.drew⟩ rfl ?_
  repeat (go_big_quiet_step (first | (go_at_call 42; rename_i q; refine (HMY.out _ q.ok.below).mono ?_; rintro e w1 ⟨rfl, hw1⟩; exact ⟨rfl, ⟨w1, q.ok.step hw1⟩, rfl⟩)))
  refine wpQuiet_nil ?_
  rintro w5 ⟨q5, e5⟩
  have hV5 : OpB w w5 o := by rw [e5]; exact q5.ok
  clear e5 q5
  have HV5 := hide hV5
  clear hV5 T0 O3 O4
  go_wp2_with fail
  go_loopw [4] (fun i wr => ∃ k : Nat, k ≤ l.length ∧ i = .int .i64 k ∧ (∀ j (hj : j < l.length), j < k → l[j].id < o.node) ∧ OpB w wr o) (fun i _ => l.length - (intOf i).toNat)
  case atStart => exact ⟨0, by omega, rfl, fun j hj h => by omega, HV5.out⟩
  case round =>
    obtain ⟨k, hk, rfl, hlow, hV⟩ := hrel
    have HV := hide hV
    have HLow := hide hlow
    have HKL := hide hk
    have t0 := (cells1 ((hV.below.block T hTlt).trans HT.out)).1
    obtain ⟨o0, o1, o2, o3, o4, o5, o6⟩ := cells7 hV.op
    have hNd := (HS.out.stays hV.below).nodesAt
    clear hlow hV
    by_cases h : k < l.length
    · obtain ⟨b', off', rfl, _, ⟨n0, n1, n2, n3⟩, _⟩ := hNd k h
      have hi0 : (0 : Int) ≤ (k : Int) := by omega
      have hi1 : (k : Int) < (l.length : Int) := by omega
      clear hNd
      by_cases hlt : l[k].id < o.node
      · go_wp2_with fail
        go_region
        go_wp2
        go_roundw
        case rel =>
          refine ⟨k + 1, by omega, by go_num, fun j hj hjk => ?_, HV.out.drew⟩
          rcases Nat.lt_or_ge j k with h' | h'
          · exact HLow.out j hj h'
          · obtain rfl : j = k := by omega
            exact hlt
        case measure => simp [intOf]; omega
      · have HUp : Hid (∀ hk : k < l.length, ¬ l[k].id < o.node) := ⟨fun _ => hlt⟩
        have hlt' : decide (l[k].id < o.node) = false := by simpa using hlt
        clear hlt
        go_wp2_with fail
        go_region
        obtain ⟨X, hX⟩ : ∃ X, wr.drew = X := ⟨_, rfl⟩
        have HX : Hid (OpB w X o) := ⟨by rw [← hX]; exact HV.out.drew⟩
        rw [hX]
        clear hX t0 o0 o1 o2 o3 o4 o5 o6 n0 n1 n2 n3 hlt'
        have hXs := HX.out.below.size
        have hTX : X.heap[T]? = _ := (HX.out.below.block T hTlt).trans HT.out
        have hTXlt : T < X.heap.size := by omega
        have t0 := (cells1 ((Below.heap_alloc X (.cells #[] 120) T hTXlt).trans hTX)).1
        obtain ⟨a1, a2, c1, c2, p, q, hpq, hsl1, hsl2, hNC⟩ := slices_of HS.out.row HKL.out
        have HPQ := hide hpq
        have HNC := hide hNC
        have hNl : NCells X (some ⟨b', off', none⟩) l := by
          obtain ⟨a', c', e', _, h'⟩ := owns_atN (HS.out.stays HX.out.below).row
          simp only [Value.slice.injEq] at e'
          obtain ⟨rfl, _, _⟩ := e'
          exact h'
        have HNL := hide hNl
        have HLP : Hid (p.length ≤ 150 ∧ q.length ≤ 150) := ⟨by rw [hpq.1, hpq.2, List.length_take, List.length_drop]; omega⟩
        have HE := hide (empty_nodes X)
        have hXlt := HX.out.lt
        clear hpq hNC hNl hTX
        go_wp2_with (first | (at_builtin; refine wpList_append_N rfl _ _ rfl X.heap.size (.slice (some ⟨X.heap.size, 0, none⟩) 0 0) [] rfl HE.out a1 p c1 rfl (((HNC.out X HNL.out).1).stays ((Below.refl _ _).alloc (Nat.le_refl _) _)) (by have := HLP.out; simp; omega) (by simp) ?_; intro v1 y1 ho1 hg1 hn1; clear hn1; simp only [List.nil_append] at ho1; have HO1 := hide ho1; have HY1 : Hid (Below X.heap.size X y1) := ⟨((Below.refl _ _).alloc (Nat.le_refl _) _).grown hg1 (by simp) (fun j hj => by simp [Value.ownBlock] at hj; omega)⟩; have HB1 := hide (HX.out.step HY1.out); clear ho1 hg1 t0 HE hsl1; obtain ⟨o0, o1, o2, o3, o4, o5, o6⟩ := cells7 HB1.out.op) | (at_builtin; refine wpList_append_N rfl _ _ rfl X.heap.size v1 p rfl (HO1.out.alloc _) (some ⟨y1.heap.size, 0, none⟩) [⟨o.node, o.parent, o.name, [], none, 0⟩] 1 rfl (one_node y1 ⟨o.node, o.parent, o.name, [], none, 0⟩) (by have := HLP.out; simp; omega) (by have := HY1.out.size; simp; omega) ?_; intro v2 y2 ho2 hg2 hn2; clear hn2; have HO2 := hide ho2; have HY2 : Hid (Below X.heap.size X y2) := ⟨(HY1.out.alloc HY1.out.size _).grown hg2 (by have := HY1.out.size; simp; omega) (fun j hj => (HO1.out.lt j hj).1)⟩; have HB2 := hide (HX.out.step HY2.out); clear ho2 hg2 o0 o1 o2 o3 o4 o5 o6; have t0 := (cells1 ((HB2.out.below.block T hTlt).trans HT.out)).1) | (at_builtin; refine wpList_append_N rfl _ _ rfl X.heap.size v2 (p ++ [⟨o.node, o.parent, o.name, [], none, 0⟩]) rfl HO2.out a2 q c2 rfl (((HNC.out X HNL.out).2).stays HY2.out) (by have := HLP.out; simp; omega) HY2.out.size ?_; intro v3 y3 ho3 hg3 hn3; clear hn3; obtain ⟨a3, c3, hv3, _, _⟩ := owns_atN ho3; generalize (p ++ [(⟨o.node, o.parent, o.name, [], none, 0⟩ : NodG)] ++ q).length = N3 at hv3; subst hv3; have HO3 := hide ho3; have HY3 : Hid (Below X.heap.size X y3) := ⟨HY2.out.grown hg3 HY2.out.size (fun j hj => (HO2.out.lt j hj).1)⟩; have HB3 := hide (HX.out.step HY3.out); clear ho3 hg3 t0; have HT3 := hide ((HB3.out.below.block T hTlt).trans HT.out); have t0 := (cells1 HT3.out).1; have t1 := (cells1 HT3.out).2))
        go_end0
        refine ⟨⟨_, rfl⟩, (.slice a3 N3 c3), k, HKL.out, HLow.out, HUp.out, set_block HT3.out 0 (.slice a3 N3 c3), ?_, fun z hz => by have h1 := (HO3.out.lt z hz).1; have h2 := HX.out.below.size; omega, (Chg.of HB3.out.below).set (a := ⟨T, 0, none⟩) (.inr rfl) _⟩
        rw [← HPQ.out.1, ← HPQ.out.2]
        exact new_tree (p := p) (q := q) (x := ⟨o.node, o.parent, o.name, [], none, 0⟩) HS.out HB3.out.below (HO3.out) HX.out.below.size hTlt HOT.out hb2 (fun n hn => by rw [HPQ.out.1] at hn; exact List.mem_of_mem_take hn) (fun n hn => by rw [HPQ.out.2] at hn; exact List.mem_of_mem_drop hn)
    · obtain rfl : k = l.length := by omega
      have HUp : Hid (∀ hk : l.length < l.length, ¬ l[l.length].id < o.node) := ⟨fun hh => absurd hh (by omega)⟩
      clear hNd
      go_wp2_with fail
      go_region
      obtain ⟨X, hX⟩ : ∃ X, wr.drew = X := ⟨_, rfl⟩
      have HX : Hid (OpB w X o) := ⟨by rw [← hX]; exact HV.out.drew⟩
      rw [hX]
      clear hX t0 o0 o1 o2 o3 o4 o5 o6
      have hXs := HX.out.below.size
      have hTX : X.heap[T]? = _ := (HX.out.below.block T hTlt).trans HT.out
      have hTXlt : T < X.heap.size := by omega
      have t0 := (cells1 ((Below.heap_alloc X (.cells #[] 120) T hTXlt).trans hTX)).1
      obtain ⟨a1, a2, c1, c2, p, q, hpq, hsl1, hsl2, hNC⟩ := slices_of HS.out.row HKL.out
      have HPQ := hide hpq
      have HNC := hide hNC
      have hNl : NCells X ao l := by
        obtain ⟨a', c', e', _, h'⟩ := owns_atN (HS.out.stays HX.out.below).row
        simp only [Value.slice.injEq] at e'
        obtain ⟨rfl, _, _⟩ := e'
        exact h'
      have HNL := hide hNl
      have HLP : Hid (p.length ≤ 150 ∧ q.length ≤ 150) := ⟨by rw [hpq.1, hpq.2, List.length_take, List.length_drop]; omega⟩
      have HE := hide (empty_nodes X)
      have hXlt := HX.out.lt
      clear hpq hNC hNl hTX
      go_wp2_with (first | (at_builtin; refine wpList_append_N rfl _ _ rfl X.heap.size (.slice (some ⟨X.heap.size, 0, none⟩) 0 0) [] rfl HE.out a1 p c1 rfl (((HNC.out X HNL.out).1).stays ((Below.refl _ _).alloc (Nat.le_refl _) _)) (by have := HLP.out; simp; omega) (by simp) ?_; intro v1 y1 ho1 hg1 hn1; clear hn1; simp only [List.nil_append] at ho1; have HO1 := hide ho1; have HY1 : Hid (Below X.heap.size X y1) := ⟨((Below.refl _ _).alloc (Nat.le_refl _) _).grown hg1 (by simp) (fun j hj => by simp [Value.ownBlock] at hj; omega)⟩; have HB1 := hide (HX.out.step HY1.out); clear ho1 hg1 t0 HE hsl1; obtain ⟨o0, o1, o2, o3, o4, o5, o6⟩ := cells7 HB1.out.op) | (at_builtin; refine wpList_append_N rfl _ _ rfl X.heap.size v1 p rfl (HO1.out.alloc _) (some ⟨y1.heap.size, 0, none⟩) [⟨o.node, o.parent, o.name, [], none, 0⟩] 1 rfl (one_node y1 ⟨o.node, o.parent, o.name, [], none, 0⟩) (by have := HLP.out; simp; omega) (by have := HY1.out.size; simp; omega) ?_; intro v2 y2 ho2 hg2 hn2; clear hn2; have HO2 := hide ho2; have HY2 : Hid (Below X.heap.size X y2) := ⟨(HY1.out.alloc HY1.out.size _).grown hg2 (by have := HY1.out.size; simp; omega) (fun j hj => (HO1.out.lt j hj).1)⟩; have HB2 := hide (HX.out.step HY2.out); clear ho2 hg2 o0 o1 o2 o3 o4 o5 o6; have t0 := (cells1 ((HB2.out.below.block T hTlt).trans HT.out)).1) | (at_builtin; refine wpList_append_N rfl _ _ rfl X.heap.size v2 (p ++ [⟨o.node, o.parent, o.name, [], none, 0⟩]) rfl HO2.out a2 q c2 rfl (((HNC.out X HNL.out).2).stays HY2.out) (by have := HLP.out; simp; omega) HY2.out.size ?_; intro v3 y3 ho3 hg3 hn3; clear hn3; obtain ⟨a3, c3, hv3, _, _⟩ := owns_atN ho3; generalize (p ++ [(⟨o.node, o.parent, o.name, [], none, 0⟩ : NodG)] ++ q).length = N3 at hv3; subst hv3; have HO3 := hide ho3; have HY3 : Hid (Below X.heap.size X y3) := ⟨HY2.out.grown hg3 HY2.out.size (fun j hj => (HO2.out.lt j hj).1)⟩; have HB3 := hide (HX.out.step HY3.out); clear ho3 hg3 t0; have HT3 := hide ((HB3.out.below.block T hTlt).trans HT.out); have t0 := (cells1 HT3.out).1; have t1 := (cells1 HT3.out).2))
      go_end0
      refine ⟨⟨_, rfl⟩, (.slice a3 N3 c3), l.length, HKL.out, HLow.out, HUp.out, set_block HT3.out 0 (.slice a3 N3 c3), ?_, fun z hz => by have h1 := (HO3.out.lt z hz).1; have h2 := HX.out.below.size; omega, (Chg.of HB3.out.below).set (a := ⟨T, 0, none⟩) (.inr rfl) _⟩
      rw [← HPQ.out.1, ← HPQ.out.2]
      exact new_tree (p := p) (q := q) (x := ⟨o.node, o.parent, o.name, [], none, 0⟩) HS.out HB3.out.below (HO3.out) HX.out.below.size hTlt HOT.out hb2 (fun n hn => by rw [HPQ.out.1] at hn; exact List.mem_of_mem_take hn) (fun n hn => by rw [HPQ.out.2] at hn; exact List.mem_of_mem_drop hn)
end Go.Proofs.YtfkgmkcndchkjaaGreatDoor.OpR
namespace Go.Proofs.YtfkgmkcndchkjaaGreatDoor.OpR
open Go.ChangeShapes Go.WideShapes Go.ChangeAt Go.RowKit
set_option linter.unusedVariables false

theorem ins_at {x : Int} {n : NodG} : ∀ {m : List (Int × NodG)} {k : Nat}, k ≤ m.length → (∀ j (hj : j < m.length), j < k → m[j].1 < x) → (∀ hk : k < m.length, x < m[k].1) → kvIns x n m = m.take k ++ (x, n) :: m.drop k
  | [], k, hk, _, _ => by
    obtain rfl : k = 0 := by simpa using hk
    rfl
  | q :: r, 0, _, _, h2 => by
    have : x < q.1 := h2 (by simp)
    rw [kvIns, if_pos this]
    rfl
  | q :: r, k + 1, hk, h1, h2 => by
    have hq : q.1 < x := h1 0 (by simp) (by omega)
    rw [kvIns, if_neg (by omega), ins_at (m := r) (k := k) (by simpa using hk) (fun j hj hjk => h1 (j + 1) (by simpa using hj) (by omega)) (fun hk => h2 (by simpa using hk))]
    rfl
theorem putL_new {l : List NodG} {n : NodG} (h : nodOf l n.id = none) {k : Nat} (hk : k ≤ l.length) (h1 : ∀ j (hj : j < l.length), j < k → l[j].id < n.id) (h2 : ∀ hk : k < l.length, ¬ l[k].id < n.id) : putL l n = l.take k ++ n :: l.drop k := by
  unfold putL kvPut
  rw [kvDel_self (kvAt_none (by rw [kvAt_of]; exact h)), ins_at (k := k) (by rw [kvOf_len]; exact hk) (fun j hj hjk => by simpa [kvOf] using h1 j (by simpa [kvOf] using hj) hjk) (fun hk' => ?_)]
  · rw [List.map_append, List.map_cons, List.map_take, List.map_drop, kvOf_snd]
  · have hk2 : k < l.length := by simpa [kvOf] using hk'
    have h3 := h2 hk2
    have h4 := nodOf_none h l[k] (List.getElem_mem hk2)
    have : n.id < l[k].id := by omega
    simpa [kvOf] using this
theorem sMove_any (l : List NodG) (ao : Option Addr) (cap : Nat) (o : OpV) (base T : Nat) (w : World) (ht : TreeR l) (hk : o.kind = 1) (hT : w.heap[T]? = some (.cells #[.slice ao l.length cap] 72 (0, 0))) (hS : TreeS w base (.slice ao l.length cap) l) (hO : OffT T (.slice ao l.length cap) l) (hb2 : base ≤ w.heap.size) :
    Calls Tryz.prog 99 #[.pointer (some ⟨T, 0, none⟩), o.agg] w fun e w' => (∃ v, e = .returned v) ∧ ∃ v d, w'.heap[T]? = some (.cells #[v] 72 (0, 0)) ∧ TreeS w' base v d ∧ OffT T v d ∧ d.map NodG.bare = (tdo l o none 0).map NodG.bare ∧ Chg w w' base T := by
  have hTlt := (Array.getElem?_eq_some_iff.1 hT).1
  have htd : tdo l o none 0 = if mayMove l o then putL l (moveN o ((nodOf l o.node).getD NodG.zero)) else l := by unfold tdo; rw [if_pos hk]
  cases hm : mayMove l o with
  | false =>
    refine (sMove_no l ao cap o base T w ht hT hS hm).mono ?_
    rintro e w' ⟨hv, hb⟩
    exact ⟨hv, _, l, (hb.block T hTlt).trans hT, hS.stays hb, hO, by rw [htd, hm]; rfl, Chg.of hb⟩
  | true =>
    have hm' := hm
    unfold mayMove at hm'
    rw [← may_code, Bool.and_eq_true] at hm'
    have hc : mayCode l o.node o.parent = 0 := by simpa using hm'.1
    rcases at_cases l o.node with ⟨ea, en⟩ | ⟨j, hj, ea, en, eid⟩
    · have hlen : l.length < 150 := by
        have := hm'.2
        rw [en] at this
        simpa using this
      refine (sMove_new l ao cap o base T w ht hT hS hO.props hb2 hc ea hlen).mono ?_
      rintro e w' ⟨hv, v, k, hk', h1, h2, hT', hS', hfar, hC⟩
      refine ⟨hv, v, _, hT', hS', ⟨fun e => (by have := hfar T e; omega), fun x hx hne => ?_⟩, ?_, hC⟩
      · rcases List.mem_append.1 hx with hx | hx
        · exact hO.props x (List.mem_of_mem_take hx) hne
        · rcases List.mem_cons.1 hx with rfl | hx
          · exact absurd rfl hne
          · exact hO.props x (List.mem_of_mem_drop hx) hne
      rw [htd, hm, en, if_pos rfl]
      rw [putL_new (n := moveN o (Option.getD none NodG.zero)) en hk' h1 h2]
      rfl
    · obtain ⟨g, hg, hgb⟩ : ∃ g, ao = some ⟨g, 0, none⟩ ∧ base ≤ g := by
        rcases hS.row.2 with ⟨e, hn⟩ | ⟨g, cap', cur, e, hb, _⟩
        · omega
        · simp only [Value.slice.injEq] at e
          exact ⟨g, e.1, hb⟩
      subst hg
      refine (sMove_at l g cap o base T w ht hT hS (fun e => hO.row (by rw [e]; rfl)) hgb hc j hj ea).mono ?_
      rintro e w' ⟨hv, hT', ⟨d, rfl, hS'⟩, hC⟩
      have hl : (l.set j ⟨l[j].id, o.parent, o.name, l[j].props, l[j].pao, l[j].pcap⟩).length = l.length := List.length_set
      refine ⟨hv, _, _, hT'.trans hT, by rw [← hl]; exact hS', ⟨hO.row, fun x hx hne => ?_⟩, ?_, hC⟩
      · rcases List.mem_or_eq_of_mem_set hx with hx | rfl
        · exact hO.props x hx hne
        · exact hO.props l[j] (List.getElem_mem hj) hne
      rw [htd, hm, en, if_pos rfl]
      rw [putL_set ht.2.1 (n := moveN o ((some l[j]).getD NodG.zero)) hj eid, eid]
      rfl
end Go.Proofs.YtfkgmkcndchkjaaGreatDoor.OpR
