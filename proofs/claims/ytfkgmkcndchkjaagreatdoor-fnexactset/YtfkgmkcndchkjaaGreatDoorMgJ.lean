/- Proves what spec.l03Set does to a right tree. An append of props in a drawn region: whatever slice they lie in, nil and empty too. Proves what spec.l03Set does to a tree where the node is there. Proves what spec.l03Do does to a right tree, and what spec.TreeDo answers. Proves what spec.TreeOf answers. -/
import Derived.Test.YtfkgmkcndchkjaaGreatDoorMgI
import Derived.Maps.AppendAt
import Derived.Deep.AppendLies
import Derived.Test.YtfkgmkcndchkjaaGreatDoorMgD
namespace Go.Proofs.YtfkgmkcndchkjaaGreatDoor.OpR
open Go.ChangeShapes Go.WideShapes Go.ChangeAt Go.RowKit
set_option linter.unusedVariables false

/-- The two parts of a slice of props, as slices. -/
theorem slice_takeP (ao : Option Addr) (cap : Nat) (l : List PropV) (hc : l.length ≤ cap) {k : Nat} (hk : k ≤ l.length) :
    ∃ (a1 : Option Addr) (c1 : Nat) (p : List PropV), p = l.take k ∧ (∀ W, (Instr.slice 118 (.slice ao l.length cap) none (some (.int .i64 (k : Int))) none).run Tryz.prog W = .ok (.slice a1 p.length c1) W) ∧ ∀ W, PropsAt W ao l → PropsAt W a1 p := by
  have ht : Tryz.prog.underlying 118 = some (.slice (Tryz.prog.elem 118)) := by kernel_rfl
  have hs : ∀ w, (sizeOf (Tryz.prog.elem 118)).run Tryz.prog w = .ok 2 w := fun _ => by kernel_rfl
  have e1 : (l.take k).length = k := by rw [List.length_take]; omega
  refine ⟨if cap = 0 then ao else ao.map (·.add (0 * 2)), cap, _, rfl, fun W => ?_, fun W hW j hj => ?_⟩
  · rw [e1, run_slice_h W 118 ao l.length cap ht .i64 (k : Int) (by omega) (by omega), hs]
    simp [Result.andThen, sliced]
  · have hj' : j < l.length := by rw [List.length_take] at hj; omega
    obtain ⟨b, off, e, hlt, ho⟩ := hW j hj'
    refine ⟨b, off, ?_, hlt, by rw [List.getElem_take]; exact ho⟩
    rw [e]
    simp [Addr.add]
theorem slice_dropP (ao : Option Addr) (cap : Nat) (l : List PropV) (hc : l.length ≤ cap) {k : Nat} (hk : k ≤ l.length) :
    ∃ (a2 : Option Addr) (c2 : Nat) (q : List PropV), q = l.drop k ∧ (∀ W, (Instr.slice 118 (.slice ao l.length cap) (some (.int .i64 (k : Int))) none none).run Tryz.prog W = .ok (.slice a2 q.length c2) W) ∧ ∀ W, PropsAt W ao l → PropsAt W a2 q := by
  have ht : Tryz.prog.underlying 118 = some (.slice (Tryz.prog.elem 118)) := by kernel_rfl
  have hs : ∀ w, (sizeOf (Tryz.prog.elem 118)).run Tryz.prog w = .ok 2 w := fun _ => by kernel_rfl
  have e2 : (l.drop k).length = l.length - k := by rw [List.length_drop]
  refine ⟨if cap = k then ao else ao.map (·.add (k * 2)), cap - k, _, rfl, fun W => ?_, fun W hW j hj => ?_⟩
  · rw [e2, run_slice_l W 118 ao l.length cap ht .i64 (k : Int) (by omega) (by omega), hs]
    simp [Result.andThen, sliced]
  · have hj' : k + j < l.length := by rw [List.length_drop] at hj; omega
    obtain ⟨b, off, e, hlt, ho⟩ := hW (k + j) hj'
    refine ⟨b, off + k * 2, ?_, hlt, ?_⟩
    · rw [if_neg (by omega), e]
      simp [Addr.add]
    · rw [List.getElem_drop, Nat.add_assoc, ← Nat.add_mul]
      exact ho
theorem plP_eq {p : PropV} : ∀ {l : List PropV} {k : Nat}, k ≤ l.length → (∀ j (hj : j < l.length), j < k → keyLt l[j].key p.key = true) → (∀ hk : k < l.length, keyLt l[k].key p.key = false) → plP p l = k
  | [], k, hk, _, _ => by
    obtain rfl : k = 0 := by simpa using hk
    rfl
  | q :: r, 0, _, _, h2 => by
    have : keyLt q.key p.key = false := h2 (by simp)
    simp [plP, this]
  | q :: r, k + 1, hk, h1, h2 => by
    have hq : keyLt q.key p.key = true := h1 0 (by simp) (by omega)
    simp only [plP, hq, if_true]
    rw [plP_eq (l := r) (k := k) (by simpa using hk) (fun j hj hjk => h1 (j + 1) (by simpa using hj) (by omega)) (fun hk => h2 (by simpa using hk))]

set_option maxRecDepth 100000 in
set_option maxHeartbeats 1000000 in
theorem sSet_no (l : List NodG) (ao : Option Addr) (cap : Nat) (o : OpV) (base T : Nat) (w : World) (hl : l.length ≤ 150) (hT : w.heap[T]? = some (.cells #[.slice ao l.length cap] 72 (0, 0))) (hS : TreeS w base (.slice ao l.length cap) l) (hat' : atI l o.node = -1) :
    Calls Tryz.prog 100 #[.pointer (some ⟨T, 0, none⟩), o.agg] w fun e w' => (∃ v, e = .returned v) ∧ Below w.heap.size w w' := by
  have hat := fun W (hW : Below w.heap.size w W) => sAt_any l ao cap o.node W (by unfold maxLen; omega) (hS.nodesAt.stays hW)
  have hTlt := (Array.getElem?_eq_some_iff.1 hT).1
  have H1 := hide (OpB.start w o)
  have HT := hide hT
  unfold OpV.agg
  simp only [hat'] at hat
  have HAT := hide hat
  clear hS hat hT
  haveI : Nonempty (Cls fun W => OpB w W o) := ⟨⟨_, H1.out⟩⟩
  have T0 : ∀ q : (Cls fun W => OpB w W o), q.wd.cell? ⟨T, 0, none⟩ = some (.slice ao l.length cap) := fun q => (cells1 ((q.ok.below.block T hTlt).trans HT.out)).1
  have O3 : ∀ q : (Cls fun W => OpB w W o), q.wd.cell? ⟨w.heap.size, 3, none⟩ = some (.int .i64 o.node) := fun q => (cells7 q.ok.op).2.2.2.1
  go_enter Tryz.func100, Tryz.ntmps100
  go_wp2_with fail
  refine wp_region_class (ι := (Cls fun W => OpB w W o)) Cls.wd (by kernel_rfl) (by kernel_rfl) ⟨_, H1.out.drew⟩ rfl ?_
  repeat (go_big_quiet_step (first | (go_at_call 52; rename_i q; refine (HAT.out _ q.ok.below).mono ?_; rintro e w1 ⟨rfl, hw1⟩; exact ⟨rfl, ⟨w1, q.ok.step hw1⟩, rfl⟩)))
  refine wpQuiet_nil ?_
  rintro w5 ⟨q5, e5⟩
  have hV5 : OpB w w5 o := by rw [e5]; exact q5.ok
  clear e5 q5
  have HV5 := hide hV5
  clear hV5 T0 O3
  go_wp2
  (try simp only [Exit.inBlock, Exit.then])
  refine bodyPost_ret (results_none rfl _ _ _) rfl ?_
  exact ⟨⟨_, rfl⟩, HV5.out.below⟩

end Go.Proofs.YtfkgmkcndchkjaaGreatDoor.OpR
namespace Go.Proofs.YtfkgmkcndchkjaaGreatDoor.OpR
open Go.ChangeShapes Go.WideShapes Go.ChangeAt Go.RowKit
set_option linter.unusedVariables false

theorem step_append_P {ops : Array Oper} {o : Oper} {a : Act} {w : World} {K : Act → World → Prop} {Q : Exit → Act → World → Prop} {E : Prop} (hgd : o.guard = none) (s x : Operand)
    (ho : o.op = .call { callee := .builtin .append, args := #[s, x], argTypes := #[118, 118] })
    (base : Nat) (v : Value) (out : List PropV) (hs : a.eval s = v) (hown : w.ownsRow base 165 2 v out.length (flatG PropV.cells out))
    (ao : Option Addr) (m : List PropV) (c : Nat) (hx : a.eval x = .slice ao m.length c) (hA : PropsAt w ao m)
    (hlen : out.length + m.length ≤ 2200000) (hbase : base ≤ w.heap.size)
    (h : ∀ a' n' c' w', n' = (out ++ m).length → w'.ownsRow base 165 2 (.slice a' n' c') (out ++ m).length (flatG PropV.cells (out ++ m)) → w.grownBy w' v.ownBlock → K (a.put o.dst (.slice a' n' c')) w') :
    if Region.wanted o (yielded ops a.tmps) = true then Oper.wp Tryz.prog o a w K Q else E := by
  have hw : Region.wanted o (yielded ops a.tmps) = true := by simp [Region.wanted, hgd]
  rw [if_pos hw]
  obtain ⟨i0, hi, hzz⟩ := Option.map_eq_some_iff.1 infoProp
  simp only [Prod.mk.injEq] at hzz
  obtain ⟨hz0, hz1, hz2⟩ := hzz
  have hm : maxLen = 9223372036854775807 := rfl
  have hrun : ∃ v' w', (Builtin.append_ #[118, 118] o.type #[v, .slice ao m.length c]).run Tryz.prog w = .ok v' w' ∧ w'.ownsRow base 165 2 v' (out ++ m).length (flatG PropV.cells (out ++ m)) ∧ w.grownBy w' v.ownBlock := by
    cases ao with
    | some ad =>
      obtain ⟨v', w', hr, h2, h3, h4, h5⟩ := run_append_own_at (P := Tryz.prog) w base 118 o.type 165 i0 _ 2 32 Tryz.underlying118 hi hz0 hz1 hz2 rfl (by decide) v out.length (flatG PropV.cells out) hown ad m.length c (flatG PropV.cells m) (flatG_len prop_len m) hA.news (oneP m) (by omega) (by omega) hbase
      exact ⟨v', w', hr, by rw [List.length_append, flatG_app]; exact h2, h3⟩
    | none =>
      obtain rfl := hA.nil_of
      refine ⟨v, w, ?_, by rw [List.append_nil]; exact hown, ⟨rfl, rfl, rfl, Nat.le_refl _, fun _ _ _ => rfl⟩⟩
      rcases hown.2 with ⟨rfl, _⟩ | ⟨g, cap, cur, rfl, _, _, hnc, _⟩
      · simp [Builtin.append_, run_underlying Tryz.underlying118, sizeOf, typeInfo, hi, Builtin.lenOf, Builtin.firstCells]
      · simp [Builtin.append_, run_underlying Tryz.underlying118, sizeOf, typeInfo, hi, Builtin.lenOf, Builtin.firstCells, loadCells, storeCells, hnc]
  obtain ⟨v', w', hr, h2, h3⟩ := hrun
  obtain ⟨a', c', rfl, _, _⟩ := owns_atP h2
  unfold Oper.wp execOp
  simp only [ho, resolve, invoke, builtin, Sem.run_bind, Sem.run_pure, Result.andThen_ok, List.map_toArray, List.map_cons, List.map_nil, hs, hx, hr]
  exact h a' _ c' w' rfl h2 h3
end Go.Proofs.YtfkgmkcndchkjaaGreatDoor.OpR
namespace Go.Proofs.YtfkgmkcndchkjaaGreatDoor.OpR
open Go.ChangeShapes Go.WideShapes Go.ChangeAt Go.RowKit
set_option linter.unusedVariables false

theorem hasKey_at (p : PropV) : ∀ {l : List PropV}, RiseP l → hasKey l p.key = decide (l[plP p l]?.map PropV.key = some p.key)
  | [], _ => by simp [hasKey, plP]
  | q :: r, h => by
    have hr := List.pairwise_cons.1 h
    by_cases h1 : keyLt q.key p.key = true
    · have hne : q.key ≠ p.key := fun e => by rw [e, kl_irrefl] at h1; cases h1
      have e : hasKey (q :: r) p.key = hasKey r p.key := by simp [hasKey, hne]
      rw [e, hasKey_at p hr.2]
      simp [plP, h1]
    · have h1' : keyLt q.key p.key = false := by simpa using h1
      by_cases h2 : q.key = p.key
      · simp [hasKey, plP, h2, kl_irrefl]
      · have hlt : keyLt p.key q.key = true := by
          cases e : keyLt p.key q.key with
          | true => rfl
          | false => exact absurd (kl_tri h1' e) h2
        have hno : hasKey r p.key = false := by
          unfold hasKey
          rw [List.any_eq_false]
          intro x hx e
          have e' : x.key = p.key := by simpa using e
          have h3 : keyLt q.key x.key = true := hr.1 x hx
          rw [e'] at h3
          rw [kl_asymm hlt] at h3
          cases h3
        have e : hasKey (q :: r) p.key = hasKey r p.key := by simp [hasKey, h2]
        rw [e, hno]
        simp [plP, h1', h2]
theorem may_at {n : NodG} {o : OpV} (hr : RiseP n.props) {k : Nat} (hk : plP ⟨o.name, o.value⟩ n.props = k) : maySet n o = (decide (n.props[k]?.map PropV.key = some o.name) || decide (n.props.length < 20)) := by
  unfold maySet
  rw [hasKey_at ⟨o.name, o.value⟩ hr, hk]
theorem set_hit {p : PropV} {l : List PropV} {k : Nat} (hk : plP p l = k) (h : k < l.length) (he : l[k].key = p.key) : setP p l = l.take k ++ p :: l.drop (k + 1) := by
  rw [setP_at, hk, if_pos (by rw [List.getElem?_eq_getElem h]; simp [he])]
theorem set_miss {p : PropV} {l : List PropV} {k : Nat} (hk : plP p l = k) (h : ∀ h : k < l.length, l[k].key ≠ p.key) : setP p l = l.take k ++ p :: l.drop k := by
  rw [setP_at, hk, if_neg, Nat.add_zero]
  intro e
  by_cases h1 : k < l.length
  · rw [List.getElem?_eq_getElem h1] at e
    simp at e
    exact h h1 e
  · rw [List.getElem?_eq_none (by omega)] at e
    simp at e
theorem set_tree {w y : World} {l : List NodG} {g cap base B j : Nat} (hS : TreeS w base (.slice (some ⟨g, 0, none⟩) l.length cap) l) (hB : Below w.heap.size w y) (hj : j < l.length) {ps : List PropV} {a : Option Addr} {m c : Nat} (hm : m = ps.length)
    (ho : y.ownsRow B 165 2 (.slice a m c) ps.length (flatG PropV.cells ps)) (hb : w.heap.size ≤ B) (hb2 : base ≤ w.heap.size) (n : NodG) (hn : l[j] = n) :
    TreeS (y.setCell ⟨g, j * 4 + 3, none⟩ (.slice a m c)) base (.slice (some ⟨g, 0, none⟩) l.length cap) (l.set j ⟨n.id, n.parent, n.name, ps, a, c⟩) := by
  subst hm
  have hglt : g < w.heap.size := (hS.row.lt g rfl).2
  have hSy := hS.stays hB
  have hm : ∀ x ∈ l.set j ⟨n.id, n.parent, n.name, ps, a, c⟩, x ∈ l ∨ x = ⟨n.id, n.parent, n.name, ps, a, c⟩ := fun x hx => List.mem_or_eq_of_mem_set hx
  have hfar : ∀ x, a = some x → base ≤ x.block ∧ g ≠ x.block := fun x hx => by
    have := (ho.lt x.block (by rw [hx]; rfl)).1
    omega
  have hoff : ∀ x ∈ l.set j ⟨n.id, n.parent, n.name, ps, a, c⟩, x.props ≠ [] → ∀ y, x.pao = some y → base ≤ y.block ∧ g ≠ y.block := fun x hx hne z hz => by
    rcases hm x hx with hx | rfl
    · have := hS.off x hx hne z hz
      exact ⟨this.1, fun e => this.2 (by rw [← e]; rfl)⟩
    · exact hfar z hz
  refine ⟨?_, fun x hx => ?_, fun x hx hne z hz => ?_, fun x hx => ?_⟩
  · have := owns_store hSy.row (j * 4 + 3) (.slice a ps.length c)
    rw [flat_field nod_len l j 3 hj (.slice a ps.length c) ⟨n.id, n.parent, n.name, ps, a, c⟩ (by omega) (by rw [hn]; rfl)] at this
    rw [List.length_set]; exact this
  · cases hpn : x.props with
    | nil => exact props_nil _ _
    | cons p r =>
      rw [← hpn]
      refine PropsAt.set (a := ⟨g, j * 4 + 3, none⟩) ?_ (fun z hz => Ne.symm (hoff x hx (by rw [hpn]; simp) z hz).2) _
      rcases hm x hx with hx | rfl
      · exact hSy.at_ x hx
      · exact props_own ho
  · have := hoff x hx hne z hz
    exact ⟨this.1, fun e => this.2 (Option.some.inj e)⟩
  · rcases hm x hx with hx | rfl
    · exact hS.room x hx
    · rcases ho.2 with ⟨e, hn0⟩ | ⟨g', cap', cur, e, hb, hg, h1, _⟩
      · show ps.length ≤ c
        omega
      · simp only [Value.slice.injEq] at e
        obtain ⟨_, _, rfl⟩ := e
        exact h1
/-- What l03Set leaves: the prop set, where it may be; all as it was else. -/
def SetEnd (l : List NodG) (g cap : Nat) (o : OpV) (base T j : Nat) (n : NodG) (w w' : World) : Prop :=
  (maySet n o = true → w'.heap[T]? = w.heap[T]? ∧ Chg w w' base T ∧ ∃ a c, (∀ x, a = some x → w.heap.size ≤ x.block) ∧ TreeS w' base (.slice (some ⟨g, 0, none⟩) l.length cap) (l.set j ⟨n.id, n.parent, n.name, setP ⟨o.name, o.value⟩ n.props, a, c⟩)) ∧ (maySet n o = false → Below w.heap.size w w')
theorem set_no {l : List NodG} {g cap : Nat} {o : OpV} {base T j : Nat} {n : NodG} {w w' : World} (h : maySet n o = false) (hb : Below w.heap.size w w') : SetEnd l g cap o base T j n w w' := ⟨fun e => (by rw [h] at e; cases e), fun _ => hb⟩
theorem set_yes {l : List NodG} {g cap : Nat} {o : OpV} {base T j : Nat} {n : NodG} {w w' : World} (h : maySet n o = true) (hb : w'.heap[T]? = w.heap[T]? ∧ Chg w w' base T ∧ ∃ a c, (∀ x, a = some x → w.heap.size ≤ x.block) ∧ TreeS w' base (.slice (some ⟨g, 0, none⟩) l.length cap) (l.set j ⟨n.id, n.parent, n.name, setP ⟨o.name, o.value⟩ n.props, a, c⟩)) : SetEnd l g cap o base T j n w w' := ⟨fun _ => hb, fun e => (by rw [h] at e; cases e)⟩
set_option maxRecDepth 100000 in
set_option maxHeartbeats 2000000 in
theorem sSet_at (l : List NodG) (g cap : Nat) (o : OpV) (base T : Nat) (w : World) (hl : l.length ≤ 150) (hT : w.heap[T]? = some (.cells #[.slice (some ⟨g, 0, none⟩) l.length cap] 72 (0, 0))) (hS : TreeS w base (.slice (some ⟨g, 0, none⟩) l.length cap) l) (hTg : T ≠ g) (hbg : base ≤ g) (j : Nat) (hj : j < l.length) (hat' : atI l o.node = (j : Int)) (n : NodG) (hn : l[j] = n) (h20 : n.props.length ≤ 20) (hri : RiseP n.props) (hb2 : base ≤ w.heap.size) :
    Calls Tryz.prog 100 #[.pointer (some ⟨T, 0, none⟩), o.agg] w fun e w' => (∃ v, e = .returned v) ∧ SetEnd l g cap o base T j n w w' := by
  have hat := fun W (hW : Below w.heap.size w W) => sAt_any l (some ⟨g, 0, none⟩) cap o.node W (by unfold maxLen; omega) (hS.nodesAt.stays hW)
  have hTlt := (Array.getElem?_eq_some_iff.1 hT).1
  have H1 := hide (OpB.start w o)
  have HT := hide hT
  have HS := hide hS
  have HRi := hide hri
  unfold OpV.agg
  simp only [hat'] at hat
  have HAT := hide hat
  have hj0 : (0 : Int) ≤ (j : Int) := by omega
  have hj1 : (j : Int) < (l.length : Int) := by omega
  have hj2 : decide ((j : Int) < 0) = false := by simp
  clear hS hat hT hat' hri
  haveI : Nonempty (Cls fun W => OpB w W o) := ⟨⟨_, H1.out⟩⟩
  have T0 : ∀ q : (Cls fun W => OpB w W o), q.wd.cell? ⟨T, 0, none⟩ = some (.slice (some ⟨g, 0, none⟩) l.length cap) := fun q => (cells1 ((q.ok.below.block T hTlt).trans HT.out)).1
  have O3 : ∀ q : (Cls fun W => OpB w W o), q.wd.cell? ⟨w.heap.size, 3, none⟩ = some (.int .i64 o.node) := fun q => (cells7 q.ok.op).2.2.2.1
  go_enter Tryz.func100, Tryz.ntmps100
  go_wp2_with fail
  refine wp_region_class (ι := (Cls fun W => OpB w W o)) Cls.wd (by kernel_rfl) (by kernel_rfl) ⟨_, H1.out.drew⟩ rfl ?_
  repeat (go_big_quiet_step (first | (go_at_call 52; rename_i q; refine (HAT.out _ q.ok.below).mono ?_; rintro e w1 ⟨rfl, hw1⟩; exact ⟨rfl, ⟨w1, q.ok.step hw1⟩, rfl⟩)))
  refine wpQuiet_nil ?_
  rintro w5 ⟨q5, e5⟩
  have hV5 : OpB w w5 o := by rw [e5]; exact q5.ok
  clear e5 q5
  have HV5 := hide hV5
  have hS5 := HS.out.stays hV5.below
  have t0 : w5.cell? ⟨T, 0, none⟩ = some (.slice (some ⟨g, 0, none⟩) l.length cap) := (cells1 ((hV5.below.block T hTlt).trans HT.out)).1
  obtain ⟨b', off', e', _, ⟨n0, n1, n2, n3⟩, _⟩ := hS5.nodesAt j hj
  cases e'
  simp only [Nat.zero_add] at n0 n1 n2 n3
  rw [hn] at n0 n1 n2 n3
  have HPw := hide (by have := HS.out.at_ _ (List.getElem_mem hj); rw [hn] at this; exact this)
  have HRm := hide (by have := HS.out.room _ (List.getElem_mem hj); rw [hn] at this; exact this)
  have HNj := hide hn
  clear hV5 hS5 T0 O3 hn
  go_wp2_with fail
  clear t0 n0 n1 n2 n3
  go_loopw [6] (fun i wr => ∃ k : Nat, k ≤ n.props.length ∧ i = .int .i64 k ∧ (∀ i (hi : i < n.props.length), i < k → keyLt n.props[i].key o.name = true) ∧ OpB w wr o) (fun i _ => n.props.length - (intOf i).toNat)
  case atStart => exact ⟨0, by omega, rfl, fun j hj h => by omega, HV5.out⟩
  case round =>
    obtain ⟨k, hk, rfl, hlow, hV⟩ := hrel
    have HV := hide hV
    have HLow := hide hlow
    have HKL := hide hk
    obtain ⟨o0, o1, o2, o3, o4, o5, o6⟩ := cells7 hV.op
    clear hlow
    by_cases h : k < n.props.length
    · obtain ⟨b1, off1, e1, hlt1, q0, q1⟩ := (HPw.out.stays hV.below) k h
      have HE1 := hide e1
      have hi0 : (0 : Int) ≤ (k : Int) := by omega
      have hi1 : (k : Int) < (n.props.length : Int) := by omega
      rw [e1]
      clear e1 hV
      cases hlt : keyLt n.props[k].key o.name
      · have hlt' : Op.bytesLess n.props[k].key.toList o.name.toList = false := hlt
        have HPl : Hid (plP ⟨o.name, o.value⟩ n.props = k) := ⟨plP_eq HKL.out HLow.out (fun _ => hlt)⟩
        clear hlt
        go_wp2_with fail
        go_region
        obtain ⟨X, hX⟩ : ∃ X, wr.drew = X := ⟨_, rfl⟩
        have HX : Hid (OpB w X o) := ⟨by rw [← hX]; exact HV.out.drew⟩
        rw [hX]
        have hXlt := HX.out.lt
        obtain ⟨a1, c1, p, hp, hsl1, hPp⟩ := slice_takeP (some ⟨b1, off1, none⟩) n.pcap n.props HRm.out HKL.out
        have HPw' : Hid (PropsAt w (some ⟨b1, off1, none⟩) n.props) := ⟨by have := HPw.out; rwa [HE1.out] at this⟩
        have HP := hide hp
        have HPP := hide hPp
        have HLP : Hid (p.length ≤ 20) := ⟨by rw [hp, List.length_take]; omega⟩
        have HE : Hid ((X.alloc (.cells #[] 165)).ownsRow X.heap.size 165 2 (.slice (some ⟨X.heap.size, 0, none⟩) 0 0) ([] : List PropV).length (flatG PropV.cells [])) := ⟨empty_props X⟩
        clear hX hp hPp o0 o1 o2 o3 o4 o5 o6 q0 q1 hlt'
        go_wp2_with (first | (at_builtin; refine wpList_append_P rfl _ _ rfl X.heap.size (.slice (some ⟨X.heap.size, 0, none⟩) 0 0) [] rfl HE.out a1 p c1 rfl ((HPP.out X (HPw'.out.stays HX.out.below)).stays ((Below.refl _ _).alloc (Nat.le_refl _) _)) (by have := HLP.out; simp; omega) (by simp) ?_; intro v1 y1 ho1 hg1 hn1; clear hn1; simp only [List.nil_append] at ho1; have HO1 := hide ho1; have HY1 : Hid (Below X.heap.size X y1) := ⟨((Below.refl _ _).alloc (Nat.le_refl _) _).grown hg1 (by simp) (fun j hj => by simp [Value.ownBlock] at hj; omega)⟩; have HB1 := hide (HX.out.step HY1.out); clear ho1 hg1 HE hsl1; obtain ⟨o0, o1, o2, o3, o4, o5, o6⟩ := cells7 HB1.out.op) | (at_builtin; refine wpList_append_P rfl _ _ rfl X.heap.size v1 p rfl (HO1.out.alloc _) (some ⟨y1.heap.size, 0, none⟩) [⟨o.name, o.value⟩] 1 rfl (one_prop y1 ⟨o.name, o.value⟩) (by have := HLP.out; simp; omega) (by have := HY1.out.size; simp; omega) ?_; intro v2 y2 ho2 hg2 hn2; clear hn2; have HO2 := hide ho2; have HY2 : Hid (Below X.heap.size X y2) := ⟨(HY1.out.alloc HY1.out.size _).grown hg2 (by have := HY1.out.size; simp; omega) (fun j hj => (HO1.out.lt j hj).1)⟩; have HB2 := hide (HX.out.step HY2.out); clear ho2 hg2 o0 o1 o2 o3 o4 o5 o6))
        obtain ⟨o0, o1, o2, o3, o4, o5, o6⟩ := cells7 HB2.out.op
        obtain ⟨q0, q1⟩ : PropAt y2 b1 (off1 + k * 2) n.props[k] := by
          obtain ⟨b', off', e', hlt', h'⟩ := (HPw'.out.stays HB2.out.below) k h
          cases e'
          exact h'
        by_cases hek : n.props[k].key = o.name
        · have HMy : Hid (maySet n o = true) := ⟨by rw [may_at HRi.out HPl.out, List.getElem?_eq_getElem h]; simp [hek]⟩
          have hne : (n.props[k].key.toList == o.name.toList) = true := by rw [hek]; exact beq_self_eq_true _
          have HSt : Hid (setP ⟨o.name, o.value⟩ n.props = p ++ [(⟨o.name, o.value⟩ : PropV)] ++ n.props.drop (k + 1)) := ⟨by rw [set_hit HPl.out h hek, HP.out]; simp⟩
          clear hek
          go_wp2_with fail
          go_region
          clear q0 q1 o0 o1 o2 o3 o4 o5 o6 hne
          go_wp2_with fail
          obtain ⟨a2, c2, q, hq, hsl2, hPq⟩ := slice_dropP (some ⟨b1, off1, none⟩) n.pcap n.props HRm.out (k := k + 1) (by omega)
          rw [show ((k + 1 : Nat) : Int) = (k : Int) + 1 by omega] at hsl2
          have HQ := hide hq
          have HPQ := hide hPq
          have HLQ : Hid (q.length ≤ 20) := ⟨by rw [hq, List.length_drop]; omega⟩
          clear hq hPq
          have hTS : ∀ W, Below w.heap.size w W → W.cell? ⟨T, 0, none⟩ = some (.slice (some ⟨g, 0, none⟩) l.length cap) ∧ (∃ u, W.cell? ⟨g, j * 4 + 3, none⟩ = some u) ∧ W.frozen? ⟨g, j * 4 + 3, none⟩ = false := fun W hW => by
            have hS' := HS.out.stays hW
            obtain ⟨b', off', e', _, ⟨n0, n1, n2, n3⟩, _⟩ := hS'.nodesAt j hj
            cases e'
            simp only [Nat.zero_add] at n3
            exact ⟨(cells1 ((hW.block T hTlt).trans HT.out)).1, ⟨_, n3⟩, row_frozen hS'.row _⟩
          have hs0 := (hTS y2.drew.drew HB2.out.below.drew.drew).1
          have HTS := hide hTS
          have hy2 := HY2.out.size
          clear hTS
          go_region_held3 (fun w' => w'.cell? ⟨T, 0, none⟩ = some (.slice (some ⟨g, 0, none⟩) l.length cap)) (first | with_reducible exact hs0 | with_reducible exact hs1 | with_reducible exact hs2) ((refine step_append_P (by rfl) _ _ (by rfl) X.heap.size v2 (p ++ [(⟨o.name, o.value⟩ : PropV)]) (by rfl) HO2.out.drewn.drewn a2 q c2 (by rfl) ((HPQ.out _ (HPw'.out.stays HB2.out.below.drew.drew))) (by have := HLP.out; have := HLQ.out; simp; omega) HY2.out.size ?_; intro a3 n3 c3 y3 hn3 hown hgrow; have HN3 := hide hn3; have HOw := hide hown; have HY3 : Hid (Below X.heap.size X y3) := ⟨HY2.out.drew.drew.grown hgrow HY2.out.size (fun j hj => (HO2.out.lt j hj).1)⟩; have HB3 := hide (HX.out.step HY3.out); have hz3 := HTS.out y3 HB3.out.below; have hs1 := hz3.1; have hf3 := hz3.2.2; obtain ⟨u3, hu3⟩ := hz3.2.1; have hs2 : (y3.setCell ⟨g, j * 4 + 3, none⟩ (.slice a3 n3 c3)).cell? ⟨T, 0, none⟩ = some (.slice (some ⟨g, 0, none⟩) l.length cap) := (by simpa only [World.cell?, Below.heap_setCell y3 ⟨g, j * 4 + 3, none⟩ (.slice a3 n3 c3) T (show T ≠ g by omega)] using hs1); clear hn3 hown hgrow hz3))
          go_wp2
          go_end0
          refine ⟨⟨_, rfl⟩, set_yes HMy.out ⟨(Below.heap_setCell y3 ⟨g, j * 4 + 3, none⟩ (.slice a3 n3 c3) T (show T ≠ g by omega)).trans (HB3.out.below.block T hTlt), (Chg.of HB3.out.below).set (a := ⟨g, j * 4 + 3, none⟩) (.inl hbg) _, a3, c3, fun x hx => by have h1 := (HOw.out.lt x.block (by rw [hx]; rfl)).1; have h2 := HX.out.below.size; omega, ?_⟩⟩
          rw [HSt.out, ← HQ.out]
          exact set_tree HS.out HB3.out.below hj HN3.out HOw.out HX.out.below.size hb2 n HNj.out
        · have hne : (n.props[k].key.toList == o.name.toList) = false := beq_eq_false_iff_ne.2 fun e => hek (toList_inj e)
          have HSt : Hid (setP ⟨o.name, o.value⟩ n.props = p ++ [(⟨o.name, o.value⟩ : PropV)] ++ n.props.drop k) := ⟨by rw [set_miss HPl.out (fun _ => hek), HP.out]; simp⟩
          by_cases hl20 : (20 : Int) ≤ (n.props.length : Int)
          · have HMy : Hid (maySet n o = false) := ⟨by rw [may_at HRi.out HPl.out, List.getElem?_eq_getElem h]; simp [hek]; omega⟩
            clear hek HSt
            go_wp2_with fail
            go_region
            clear q0 q1 o0 o1 o2 o3 o4 o5 o6 hne
            go_wp2
            (try simp only [Exit.inBlock, Exit.then])
            refine bodyPost_ret (results_none rfl _ _ _) rfl ?_
            exact ⟨⟨_, rfl⟩, set_no HMy.out HB2.out.below.drew⟩
          · have HMy : Hid (maySet n o = true) := ⟨by rw [may_at HRi.out HPl.out, Bool.or_eq_true]; exact .inr (decide_eq_true (by omega))⟩
            clear hek
            go_wp2_with fail
            go_region
            clear q0 q1 o0 o1 o2 o3 o4 o5 o6 hne
            go_wp2_with fail
            obtain ⟨a2, c2, q, hq, hsl2, hPq⟩ := slice_dropP (some ⟨b1, off1, none⟩) n.pcap n.props HRm.out HKL.out
            have HQ := hide hq
            have HPQ := hide hPq
            have HLQ : Hid (q.length ≤ 20) := ⟨by rw [hq, List.length_drop]; omega⟩
            clear hq hPq
            have hTS : ∀ W, Below w.heap.size w W → W.cell? ⟨T, 0, none⟩ = some (.slice (some ⟨g, 0, none⟩) l.length cap) ∧ (∃ u, W.cell? ⟨g, j * 4 + 3, none⟩ = some u) ∧ W.frozen? ⟨g, j * 4 + 3, none⟩ = false := fun W hW => by
              have hS' := HS.out.stays hW
              obtain ⟨b', off', e', _, ⟨n0, n1, n2, n3⟩, _⟩ := hS'.nodesAt j hj
              cases e'
              simp only [Nat.zero_add] at n3
              exact ⟨(cells1 ((hW.block T hTlt).trans HT.out)).1, ⟨_, n3⟩, row_frozen hS'.row _⟩
            have hs0 := (hTS y2.drew.drew HB2.out.below.drew.drew).1
            have HTS := hide hTS
            have hy2 := HY2.out.size
            clear hTS
            go_region_held3 (fun w' => w'.cell? ⟨T, 0, none⟩ = some (.slice (some ⟨g, 0, none⟩) l.length cap)) (first | with_reducible exact hs0 | with_reducible exact hs1 | with_reducible exact hs2) ((refine step_append_P (by rfl) _ _ (by rfl) X.heap.size v2 (p ++ [(⟨o.name, o.value⟩ : PropV)]) (by rfl) HO2.out.drewn.drewn a2 q c2 (by rfl) ((HPQ.out _ (HPw'.out.stays HB2.out.below.drew.drew))) (by have := HLP.out; have := HLQ.out; simp; omega) HY2.out.size ?_; intro a3 n3 c3 y3 hn3 hown hgrow; have HN3 := hide hn3; have HOw := hide hown; have HY3 : Hid (Below X.heap.size X y3) := ⟨HY2.out.drew.drew.grown hgrow HY2.out.size (fun j hj => (HO2.out.lt j hj).1)⟩; have HB3 := hide (HX.out.step HY3.out); have hz3 := HTS.out y3 HB3.out.below; have hs1 := hz3.1; have hf3 := hz3.2.2; obtain ⟨u3, hu3⟩ := hz3.2.1; have hs2 : (y3.setCell ⟨g, j * 4 + 3, none⟩ (.slice a3 n3 c3)).cell? ⟨T, 0, none⟩ = some (.slice (some ⟨g, 0, none⟩) l.length cap) := (by simpa only [World.cell?, Below.heap_setCell y3 ⟨g, j * 4 + 3, none⟩ (.slice a3 n3 c3) T (show T ≠ g by omega)] using hs1); clear hn3 hown hgrow hz3))
            go_wp2
            go_end0
            refine ⟨⟨_, rfl⟩, set_yes HMy.out ⟨(Below.heap_setCell y3 ⟨g, j * 4 + 3, none⟩ (.slice a3 n3 c3) T (show T ≠ g by omega)).trans (HB3.out.below.block T hTlt), (Chg.of HB3.out.below).set (a := ⟨g, j * 4 + 3, none⟩) (.inl hbg) _, a3, c3, fun x hx => by have h1 := (HOw.out.lt x.block (by rw [hx]; rfl)).1; have h2 := HX.out.below.size; omega, ?_⟩⟩
            rw [HSt.out, ← HQ.out]
            exact set_tree HS.out HB3.out.below hj HN3.out HOw.out HX.out.below.size hb2 n HNj.out
      · have hlt' : Op.bytesLess n.props[k].key.toList o.name.toList = true := hlt
        go_wp2_with fail
        go_region
        go_wp2
        go_roundw
        case rel =>
          refine ⟨k + 1, by omega, by go_num, fun i hi hik => ?_, HV.out.drew⟩
          rcases Nat.lt_or_ge i k with h' | h'
          · exact HLow.out i hi h'
          · obtain rfl : i = k := by omega
            exact hlt
        case measure => simp [intOf]; omega
    · obtain rfl : k = n.props.length := by omega
      have HPl : Hid (plP ⟨o.name, o.value⟩ n.props = n.props.length) := ⟨plP_eq HKL.out HLow.out (fun hh => absurd hh (by omega))⟩
      clear hV
      go_wp2_with fail
      go_region
      obtain ⟨X, hX⟩ : ∃ X, wr.drew = X := ⟨_, rfl⟩
      have HX : Hid (OpB w X o) := ⟨by rw [← hX]; exact HV.out.drew⟩
      rw [hX]
      have hXlt := HX.out.lt
      obtain ⟨a1, c1, p, hp, hsl1, hPp⟩ := slice_takeP n.pao n.pcap n.props HRm.out HKL.out
      have HPw' : Hid (PropsAt w n.pao n.props) := ⟨HPw.out⟩
      have HP := hide hp
      have HPP := hide hPp
      have HLP : Hid (p.length ≤ 20) := ⟨by rw [hp, List.length_take]; omega⟩
      have HE : Hid ((X.alloc (.cells #[] 165)).ownsRow X.heap.size 165 2 (.slice (some ⟨X.heap.size, 0, none⟩) 0 0) ([] : List PropV).length (flatG PropV.cells [])) := ⟨empty_props X⟩
      clear hX hp hPp o0 o1 o2 o3 o4 o5 o6 
      go_wp2_with (first | (at_builtin; refine wpList_append_P rfl _ _ rfl X.heap.size (.slice (some ⟨X.heap.size, 0, none⟩) 0 0) [] rfl HE.out a1 p c1 rfl ((HPP.out X (HPw'.out.stays HX.out.below)).stays ((Below.refl _ _).alloc (Nat.le_refl _) _)) (by have := HLP.out; simp; omega) (by simp) ?_; intro v1 y1 ho1 hg1 hn1; clear hn1; simp only [List.nil_append] at ho1; have HO1 := hide ho1; have HY1 : Hid (Below X.heap.size X y1) := ⟨((Below.refl _ _).alloc (Nat.le_refl _) _).grown hg1 (by simp) (fun j hj => by simp [Value.ownBlock] at hj; omega)⟩; have HB1 := hide (HX.out.step HY1.out); clear ho1 hg1 HE hsl1; obtain ⟨o0, o1, o2, o3, o4, o5, o6⟩ := cells7 HB1.out.op) | (at_builtin; refine wpList_append_P rfl _ _ rfl X.heap.size v1 p rfl (HO1.out.alloc _) (some ⟨y1.heap.size, 0, none⟩) [⟨o.name, o.value⟩] 1 rfl (one_prop y1 ⟨o.name, o.value⟩) (by have := HLP.out; simp; omega) (by have := HY1.out.size; simp; omega) ?_; intro v2 y2 ho2 hg2 hn2; clear hn2; have HO2 := hide ho2; have HY2 : Hid (Below X.heap.size X y2) := ⟨(HY1.out.alloc HY1.out.size _).grown hg2 (by have := HY1.out.size; simp; omega) (fun j hj => (HO1.out.lt j hj).1)⟩; have HB2 := hide (HX.out.step HY2.out); clear ho2 hg2 o0 o1 o2 o3 o4 o5 o6))
      obtain ⟨o0, o1, o2, o3, o4, o5, o6⟩ := cells7 HB2.out.op
      have HSt : Hid (setP ⟨o.name, o.value⟩ n.props = p ++ [(⟨o.name, o.value⟩ : PropV)] ++ n.props.drop n.props.length) := ⟨by rw [set_miss HPl.out (fun hh => absurd hh (by omega)), HP.out]; simp⟩
      by_cases hl20 : (20 : Int) ≤ (n.props.length : Int)
      · have HMy : Hid (maySet n o = false) := ⟨by rw [may_at HRi.out HPl.out, List.getElem?_eq_none (Nat.le_refl _)]; simp; omega⟩
        clear HSt
        go_wp2_with fail
        go_region
        clear o0 o1 o2 o3 o4 o5 o6
        go_wp2
        (try simp only [Exit.inBlock, Exit.then])
        refine bodyPost_ret (results_none rfl _ _ _) rfl ?_
        exact ⟨⟨_, rfl⟩, set_no HMy.out HB2.out.below.drew⟩
      · have HMy : Hid (maySet n o = true) := ⟨by rw [may_at HRi.out HPl.out, Bool.or_eq_true]; exact .inr (decide_eq_true (by omega))⟩
        go_wp2_with fail
        go_region
        clear o0 o1 o2 o3 o4 o5 o6
        go_wp2_with fail
        obtain ⟨a2, c2, q, hq, hsl2, hPq⟩ := slice_dropP n.pao n.pcap n.props HRm.out HKL.out
        have HQ := hide hq
        have HPQ := hide hPq
        have HLQ : Hid (q.length ≤ 20) := ⟨by rw [hq, List.length_drop]; omega⟩
        clear hq hPq
        have hTS : ∀ W, Below w.heap.size w W → W.cell? ⟨T, 0, none⟩ = some (.slice (some ⟨g, 0, none⟩) l.length cap) ∧ (∃ u, W.cell? ⟨g, j * 4 + 3, none⟩ = some u) ∧ W.frozen? ⟨g, j * 4 + 3, none⟩ = false := fun W hW => by
          have hS' := HS.out.stays hW
          obtain ⟨b', off', e', _, ⟨n0, n1, n2, n3⟩, _⟩ := hS'.nodesAt j hj
          cases e'
          simp only [Nat.zero_add] at n3
          exact ⟨(cells1 ((hW.block T hTlt).trans HT.out)).1, ⟨_, n3⟩, row_frozen hS'.row _⟩
        have hs0 := (hTS y2.drew.drew HB2.out.below.drew.drew).1
        have HTS := hide hTS
        have hy2 := HY2.out.size
        clear hTS
        go_region_held3 (fun w' => w'.cell? ⟨T, 0, none⟩ = some (.slice (some ⟨g, 0, none⟩) l.length cap)) (first | with_reducible exact hs0 | with_reducible exact hs1 | with_reducible exact hs2) ((refine step_append_P (by rfl) _ _ (by rfl) X.heap.size v2 (p ++ [(⟨o.name, o.value⟩ : PropV)]) (by rfl) HO2.out.drewn.drewn a2 q c2 (by rfl) ((HPQ.out _ (HPw'.out.stays HB2.out.below.drew.drew))) (by have := HLP.out; have := HLQ.out; simp; omega) HY2.out.size ?_; intro a3 n3 c3 y3 hn3 hown hgrow; have HN3 := hide hn3; have HOw := hide hown; have HY3 : Hid (Below X.heap.size X y3) := ⟨HY2.out.drew.drew.grown hgrow HY2.out.size (fun j hj => (HO2.out.lt j hj).1)⟩; have HB3 := hide (HX.out.step HY3.out); have hz3 := HTS.out y3 HB3.out.below; have hs1 := hz3.1; have hf3 := hz3.2.2; obtain ⟨u3, hu3⟩ := hz3.2.1; have hs2 : (y3.setCell ⟨g, j * 4 + 3, none⟩ (.slice a3 n3 c3)).cell? ⟨T, 0, none⟩ = some (.slice (some ⟨g, 0, none⟩) l.length cap) := (by simpa only [World.cell?, Below.heap_setCell y3 ⟨g, j * 4 + 3, none⟩ (.slice a3 n3 c3) T (show T ≠ g by omega)] using hs1); clear hn3 hown hgrow hz3))
        go_wp2
        go_end0
        refine ⟨⟨_, rfl⟩, set_yes HMy.out ⟨(Below.heap_setCell y3 ⟨g, j * 4 + 3, none⟩ (.slice a3 n3 c3) T (show T ≠ g by omega)).trans (HB3.out.below.block T hTlt), (Chg.of HB3.out.below).set (a := ⟨g, j * 4 + 3, none⟩) (.inl hbg) _, a3, c3, fun x hx => by have h1 := (HOw.out.lt x.block (by rw [hx]; rfl)).1; have h2 := HX.out.below.size; omega, ?_⟩⟩
        rw [HSt.out, ← HQ.out]
        exact set_tree HS.out HB3.out.below hj HN3.out HOw.out HX.out.below.size hb2 n HNj.out
end Go.Proofs.YtfkgmkcndchkjaaGreatDoor.OpR
namespace Go.Proofs.YtfkgmkcndchkjaaGreatDoor.OpR
open Go.ChangeShapes Go.WideShapes Go.ChangeAt Go.RowKit
set_option linter.unusedVariables false

/-- What a deed done to the tree in block T leaves. -/
def DidTo (l : List NodG) (o : OpV) (base T : Nat) (w w' : World) : Prop :=
  ∃ v d, w'.heap[T]? = some (.cells #[v] 72 (0, 0)) ∧ TreeS w' base v d ∧ OffT T v d ∧ d.map NodG.bare = (tdo l o none 0).map NodG.bare ∧ Chg w w' base T
theorem sSet_any (l : List NodG) (ao : Option Addr) (cap : Nat) (o : OpV) (base T : Nat) (w : World) (ht : TreeR l) (hk : o.kind ≠ 1) (hT : w.heap[T]? = some (.cells #[.slice ao l.length cap] 72 (0, 0))) (hS : TreeS w base (.slice ao l.length cap) l) (hO : OffT T (.slice ao l.length cap) l) (hb2 : base ≤ w.heap.size) :
    Calls Tryz.prog 100 #[.pointer (some ⟨T, 0, none⟩), o.agg] w fun e w' => (∃ v, e = .returned v) ∧ DidTo l o base T w w' := by
  have hTlt := (Array.getElem?_eq_some_iff.1 hT).1
  rcases at_cases l o.node with ⟨ea, en⟩ | ⟨j, hj, ea, en, eid⟩
  · have htd : tdo l o none 0 = l := by unfold tdo; rw [if_neg hk, en]
    refine (sSet_no l ao cap o base T w ht.1 hT hS ea).mono ?_
    rintro e w' ⟨hv, hb⟩
    exact ⟨hv, _, l, (hb.block T hTlt).trans hT, hS.stays hb, hO, by rw [htd], Chg.of hb⟩
  · obtain ⟨g, hg, hgb⟩ : ∃ g, ao = some ⟨g, 0, none⟩ ∧ base ≤ g := by
      rcases hS.row.2 with ⟨e, hn⟩ | ⟨g, cap', cur, e, hb, _⟩
      · omega
      · simp only [Value.slice.injEq] at e
        exact ⟨g, e.1, hb⟩
    subst hg
    have hok := nodOk_parts (ht.2.2 l[j] (List.getElem_mem hj))
    refine (sSet_at l g cap o base T w ht.1 hT hS (fun e => hO.row (by rw [e]; rfl)) hgb j hj ea l[j] rfl hok.props.1 (rise_pair hok.props.2.2) hb2).mono ?_
    rintro e w' ⟨hv, hyes, hno⟩
    have htd : tdo l o none 0 = if maySet l[j] o then putL l (setN o l[j] none 0) else l := by unfold tdo; rw [if_neg hk, en]
    cases hm : maySet l[j] o with
    | false =>
      have hb := hno hm
      exact ⟨hv, _, l, (hb.block T hTlt).trans hT, hS.stays hb, hO, by rw [htd, hm]; rfl, Chg.of hb⟩
    | true =>
      obtain ⟨hT', hC, a, c, hfar, hS'⟩ := hyes hm
      refine ⟨hv, _, _, hT'.trans hT, hS', ⟨hO.row, fun x hx hne => ?_⟩, ?_, hC⟩
      · rcases List.mem_or_eq_of_mem_set hx with hx | rfl
        · exact hO.props x hx hne
        · intro z hz e
          have := hfar z hz
          omega
      · rw [htd, hm, if_pos rfl, putL_set ht.2.1 (n := setN o l[j] none 0) hj rfl, List.map_set, List.map_set]
        rfl
theorem Chg.since {w W w' : World} {base T : Nat} (hb : Below w.heap.size w W) (h : Chg W w' base T) : Chg w w' base T :=
  ⟨h.os.trans hb.os, h.tape.trans hb.tape, h.output.trans hb.output, Nat.le_trans hb.size h.size, fun k hk hb' hT => (h.block k (by have := hb.size; omega) hb' hT).trans (hb.block k hk)⟩
theorem DidTo.since {l : List NodG} {o : OpV} {base T : Nat} {w W w' : World} (hb : Below w.heap.size w W) (h : DidTo l o base T W w') : DidTo l o base T w w' := by
  obtain ⟨v, d, h1, h2, h3, h4, h5⟩ := h
  exact ⟨v, d, h1, h2, h3, h4, h5.since hb⟩

set_option maxRecDepth 100000 in
set_option maxHeartbeats 1000000 in
theorem sDo_any (l : List NodG) (ao : Option Addr) (cap : Nat) (o : OpV) (base T : Nat) (w : World) (ht : TreeR l) (hT : w.heap[T]? = some (.cells #[.slice ao l.length cap] 72 (0, 0))) (hS : TreeS w base (.slice ao l.length cap) l) (hO : OffT T (.slice ao l.length cap) l) (hb2 : base ≤ w.heap.size) :
    Calls Tryz.prog 73 #[.pointer (some ⟨T, 0, none⟩), o.agg] w fun e w' => (∃ v, e = .returned v) ∧ DidTo l o base T w w' := by
  have hTlt := (Array.getElem?_eq_some_iff.1 hT).1
  have H1 := hide (OpB.start w o)
  obtain ⟨o0, o1, o2, o3, o4, o5, o6⟩ := cells7 H1.out.op
  by_cases hk : o.kind = 1
  · have hmv := fun W (hW : Below w.heap.size w W) => sMove_any l ao cap o base T W ht hk ((hW.block T hTlt).trans hT) (hS.stays hW) hO (Nat.le_trans hb2 hW.size)
    unfold OpV.agg at hmv ⊢
    have HMV := hide hmv
    have b0 : (o.kind == 1) = true := beq_iff_eq.2 hk
    clear hmv hS hT hO ht hk
    go_enter Tryz.func73, Tryz.ntmps73
    go_wp2_with (first | (go_at_call 99; refine (HMV.out _ H1.out.below).mono ?_; rintro e w1 ⟨⟨v1, rfl⟩, hd1⟩; have HD : Hid (DidTo l o base T _ w1) := ⟨hd1⟩; clear hd1))
    go_end0
    exact ⟨⟨_, rfl⟩, HD.out.since H1.out.below⟩
  · have hmv := fun W (hW : Below w.heap.size w W) => sSet_any l ao cap o base T W ht hk ((hW.block T hTlt).trans hT) (hS.stays hW) hO (Nat.le_trans hb2 hW.size)
    unfold OpV.agg at hmv ⊢
    have HMV := hide hmv
    have b0 : (o.kind == 1) = false := beq_eq_false_iff_ne.2 hk
    clear hmv hS hT hO ht hk
    go_enter Tryz.func73, Tryz.ntmps73
    go_wp2_with (first | (go_at_call 100; refine (HMV.out _ H1.out.below).mono ?_; rintro e w1 ⟨⟨v1, rfl⟩, hd1⟩; have HD := hide hd1; clear hd1))
    go_end0
    exact ⟨⟨_, rfl⟩, HD.out.since H1.out.below⟩

theorem TreeS.moved {w w' : World} {base : Nat} {v : Value} {l : List NodG} (h : TreeS w base v l) (he : ∀ g, base ≤ g → w'.heap[g]? = w.heap[g]?) : TreeS w' base v l := by
  refine ⟨owns_moved h.row he, fun n hn => ?_, h.off, h.room⟩
  intro j hj
  obtain ⟨b, off, e, hlt, ho⟩ := h.at_ n hn j hj
  have hb := (h.off n hn (fun e => by rw [e] at hj; simp at hj) _ e).1
  have hq := he b hb
  refine ⟨b, off, e, ?_, ho.block hq⟩
  have := Array.getElem?_eq_getElem hlt
  rw [this] at hq
  exact (Array.getElem?_eq_some_iff.1 hq).1
theorem TreeS.lower {w : World} {base base' : Nat} {v : Value} {l : List NodG} (h : TreeS w base v l) (hb : base' ≤ base) : TreeS w base' v l :=
  ⟨owns_lower h.row hb, h.at_, fun n hn hne x hx => ⟨Nat.le_trans hb (h.off n hn hne x hx).1, (h.off n hn hne x hx).2⟩, h.room⟩
theorem TreeS.offNew {w : World} {base T : Nat} {v : Value} {l : List NodG} (h : TreeS w base v l) (hT : w.heap.size ≤ T) : OffT T v l :=
  ⟨fun e => by have := (h.row.lt T e).2; omega, fun n hn hne x hx e => by
    obtain ⟨b, off, e', hlt, _⟩ := h.at_ n hn 0 (List.length_pos_iff.2 hne)
    rw [hx] at e'
    cases e'
    simp at e
    omega⟩
theorem DoB.chg {w c c' : World} {sv rv : Value} {o : OpV} {base T : Nat} (h : DoB w c sv rv o) (hb : w.heap.size + 1 + 1 < base) (hT : w.heap.size + 1 + 1 < T) (hc : Chg c c' base T) : DoB w c' sv rv o :=
  have hl := h.lt
  have hs := h.below.size
  ⟨⟨hc.os.trans h.below.os, hc.tape.trans h.below.tape, hc.output.trans h.below.output, Nat.le_trans hs hc.size, fun k hk => (hc.block k (by omega) (by omega) (by omega)).trans (h.below.block k hk)⟩, (hc.block _ (by omega) (by omega) (by omega)).trans h.tv, (hc.block _ (by omega) (by omega) (by omega)).trans h.op, (hc.block _ (by omega) (by omega) (by omega)).trans h.rv⟩
theorem DoB.finS {w w4 : World} {sv rv v : Value} {o : OpV} {d : List NodG} {base : Nat} (h4 : DoB w w4 sv rv o) (hb : w.heap.size + 1 + 1 < base) (ht : TreeS w4 base v d) (x : Value) :
    TreeS (w4.setCell ⟨w.heap.size + 1 + 1, 0, none⟩ x) w.heap.size v d ∧ Below w.heap.size w (w4.setCell ⟨w.heap.size + 1 + 1, 0, none⟩ x) := by
  refine ⟨(ht.moved (fun g hg => ?_)).lower (by omega), h4.below.setCell (p := ⟨w.heap.size + 1 + 1, 0, none⟩) (show w.heap.size ≤ w.heap.size + 1 + 1 by omega) _⟩
  exact Below.heap_setCell _ _ _ _ (by simp; omega)

end Go.Proofs.YtfkgmkcndchkjaaGreatDoor.OpR
namespace Go.Proofs.YtfkgmkcndchkjaaGreatDoor.OpR
open Go.ChangeShapes Go.WideShapes Go.ChangeAt Go.RowKit
set_option linter.unusedVariables false

/-- Between two deeds: the answer's variable, the tree's, the tree. -/
structure OfB (w c : World) (v : Value) (d : List NodG) : Prop where
  below : Below w.heap.size w c
  rv : c.heap[w.heap.size]? = some (.cells #[.slice none 0 0] 72 (0, 0))
  tv : c.heap[w.heap.size + 1]? = some (.cells #[v] 72 (0, 0))
  tree : TreeS c (w.heap.size + 1 + 1) v d
  off : OffT (w.heap.size + 1) v d
theorem OfB.lt {w c : World} {v : Value} {d : List NodG} (h : OfB w c v d) : w.heap.size + 1 < c.heap.size := (Array.getElem?_eq_some_iff.1 h.tv).1
theorem OfB.start (w : World) : OfB w ((w.alloc (.cells #[.slice none 0 0] 72)).alloc (.cells #[.slice none 0 0] 72)) (.slice none 0 0) [] :=
  ⟨((Below.refl _ _).alloc (Nat.le_refl _) _).alloc (by simp) _, by rw [Below.heap_alloc _ _ _ (by simp)]; exact heap_alloc_new w _, last2 _ _ _, (tree_own_nil _ _).toS, ⟨by simp [Value.ownBlock], fun n hn => absurd hn (by simp)⟩⟩
theorem OfB.step {w c c' : World} {v : Value} {d : List NodG} (h : OfB w c v d) (hb : Below c.heap.size c c') : OfB w c' v d :=
  have hl := h.lt
  ⟨h.below.trans (hb.mono h.below.size), (hb.block _ (by omega)).trans h.rv, (hb.block _ (by omega)).trans h.tv, h.tree.stays hb, h.off⟩
theorem OfB.did {w c c' : World} {v : Value} {d : List NodG} {o : OpV} (h : OfB w c v d) (hd : DidTo d o (w.heap.size + 1 + 1) (w.heap.size + 1) c c') : ∃ v' d', OfB w c' v' d' ∧ d'.map NodG.bare = (tdo d o none 0).map NodG.bare := by
  obtain ⟨v', d', h1, h2, h3, h4, hc⟩ := hd
  have hl := h.lt
  have hs := h.below.size
  exact ⟨v', d', ⟨⟨hc.os.trans h.below.os, hc.tape.trans h.below.tape, hc.output.trans h.below.output, Nat.le_trans hs hc.size, fun k hk => (hc.block k (by omega) (by omega) (by omega)).trans (h.below.block k hk)⟩, (hc.block _ (by omega) (by omega) (by omega)).trans h.rv, h1, h2, h3⟩, h4⟩
set_option maxRecDepth 100000 in
set_option maxHeartbeats 1000000 in
theorem sOf_any (l : List OpV) (ao : Option Addr) (cap : Nat) (w : World) (hl : l.length ≤ 150) (hA : OpsAt w ao l) (hR : ∀ i (h : i < l.length), opRight l[i] = true) :
    Calls Tryz.prog 43 #[.slice ao l.length cap] w fun e w' => ∃ v d, e = .returned (.agg #[v]) ∧ TreeS w' w.heap.size v d ∧ d.map NodG.bare = (tof l).map NodG.bare ∧ Below w.heap.size w w' := by
  have HA := hide hA
  have HR := hide hR
  have H0 := hide (OfB.start w)
  clear hA hR
  go_enter Tryz.func43, Tryz.ntmps43
  go_wp2
  go_loopw [4] (fun i wr => ∃ (k : Nat) (v : Value) (d : List NodG), k ≤ l.length ∧ i = .int .i64 k ∧ d.map NodG.bare = (tof (l.take k)).map NodG.bare ∧ OfB w wr v d) (fun i _ => l.length - (intOf i).toNat)
  case atStart => exact ⟨0, _, [], by omega, rfl, rfl, H0.out⟩
  case round =>
    obtain ⟨k, v, d, hk, rfl, hd, hV⟩ := hrel
    have HV := hide hV
    have HD := hide hd
    obtain ⟨a1, c1, rfl, _, _⟩ := owns_atN hV.tree.row
    by_cases h : k < l.length
    · obtain ⟨b, off, rfl, hlt, ho⟩ := HA.out k h
      obtain ⟨c0, c1', c2, c3, c4, c5, c6⟩ := ho.block (w' := wr) (hV.below.block b hlt)
      have hi0 : (0 : Int) ≤ (k : Int) := by omega
      have hi1 : (k : Int) < (l.length : Int) := by omega
      have hTd : TreeR d := (treeR_iff d).1 (by rw [tree_alike hd]; exact tree_yes (tof_right HR.out k (by omega)))
      have hdo := sDo_any d a1 c1 l[k] (w.heap.size + 1 + 1) (w.heap.size + 1) wr hTd hV.tv hV.tree hV.off (by have := hV.lt; omega)
      unfold OpV.agg at hdo
      have HDO := hide hdo
      clear ho hV hd hdo hTd
      go_wp2_with (first | (go_at_call 73; refine HDO.out.mono ?_; rintro e w4 ⟨⟨v4, rfl⟩, hd4⟩; have HD4 := hide hd4; clear hd4))
      obtain ⟨v', d', hB', hd'⟩ := HV.out.did HD4.out
      go_roundw
      case rel => exact ⟨k + 1, v', d', by omega, by go_num, by rw [hd', tof_take h]; exact tdo_alike HD.out _ _ _ _ _, hB'⟩
      case measure => simp [intOf]; omega
    · obtain rfl : k = l.length := by omega
      have t0 := (cells1 hV.tv).1
      have r0 := (cells1 hV.rv).1
      have r1 := (cells1 hV.rv).2
      have HF : Hid (d.map NodG.bare = (tof l).map NodG.bare) := ⟨by rw [List.take_length] at hd; exact hd⟩
      clear hV hd
      go_wp2
      refine bodyPost_ret (v := .agg #[.slice a1 d.length c1]) (by simp [results, Tryz.results43, go_sem, r0]) rfl ⟨_, d, rfl, (HV.out.tree.moved (fun g hg => ?_)).lower (by omega), HF.out, HV.out.below.setCell (p := ⟨w.heap.size, 0, none⟩) (Nat.le_refl _) _⟩
      exact Below.heap_setCell _ _ _ _ (by simp; omega)
end Go.Proofs.YtfkgmkcndchkjaaGreatDoor.OpR
