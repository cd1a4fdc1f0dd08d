/- An append of nodes in a drawn region: whatever slice they lie in, nil and empty too. -/
import Derived.Test.YtmidembbanlleafDoorMrgC
import Derived.Maps.AppendAt
import Derived.Deep.AppendLies
namespace Go.Proofs.YtmidembbanlleafDoor.OpR
open Go.ChangeShapes Go.WideShapes Go.ChangeAt Go.RowKit
set_option linter.unusedVariables false

theorem step_append_N {ops : Array Oper} {o : Oper} {a : Act} {w : World} {K : Act → World → Prop} {Q : Exit → Act → World → Prop} {E : Prop} (hgd : o.guard = none) (s x : Operand)
    (ho : o.op = .call { callee := .builtin .append, args := #[s, x], argTypes := #[27, 27] })
    (base : Nat) (v : Value) (out : List NodG) (hs : a.eval s = v) (hown : w.ownsRow base 53 4 v out.length (flatG NodG.cells out))
    (ao : Option Addr) (m : List NodG) (c : Nat) (hx : a.eval x = .slice ao m.length c) (hA : NCells w ao m)
    (hlen : out.length + m.length ≤ 2200000) (hbase : base ≤ w.heap.size)
    (h : ∀ a' n' c' w', n' = (out ++ m).length → w'.ownsRow base 53 4 (.slice a' n' c') (out ++ m).length (flatG NodG.cells (out ++ m)) → w.grownBy w' v.ownBlock → K (a.put o.dst (.slice a' n' c')) w') :
    if Region.wanted o (yielded ops a.tmps) = true then Oper.wp Tryd.prog o a w K Q else E := by
  have hw : Region.wanted o (yielded ops a.tmps) = true := by simp [Region.wanted, hgd]
  rw [if_pos hw]
  obtain ⟨i0, hi, hzz⟩ := Option.map_eq_some_iff.1 infoNode
  simp only [Prod.mk.injEq] at hzz
  obtain ⟨hz0, hz1, hz2⟩ := hzz
  have hm : maxLen = 9223372036854775807 := rfl
  have hrun : ∃ v' w', (Builtin.append_ #[27, 27] o.type #[v, .slice ao m.length c]).run Tryd.prog w = .ok v' w' ∧ w'.ownsRow base 53 4 v' (out ++ m).length (flatG NodG.cells (out ++ m)) ∧ w.grownBy w' v.ownBlock := by
    cases ao with
    | some ad =>
      obtain ⟨v', w', hr, h2, h3, h4, h5⟩ := run_append_own_at (P := Tryd.prog) w base 27 o.type 53 i0 _ 4 56 Tryd.underlying27 hi hz0 hz1 hz2 rfl (by decide) v out.length (flatG NodG.cells out) hown ad m.length c (flatG NodG.cells m) (flatG_len nod_len m) hA.news (oneN m) (by omega) (by omega) hbase
      exact ⟨v', w', hr, by rw [List.length_append, flatG_app]; exact h2, h3⟩
    | none =>
      obtain rfl := hA.nil_of
      refine ⟨v, w, ?_, by rw [List.append_nil]; exact hown, ⟨rfl, rfl, rfl, Nat.le_refl _, fun _ _ _ => rfl⟩⟩
      rcases hown.2 with ⟨rfl, _⟩ | ⟨g, cap, cur, rfl, _, _, hnc, _⟩
      · simp [Builtin.append_, run_underlying Tryd.underlying27, sizeOf, typeInfo, hi, Builtin.lenOf, Builtin.firstCells]
      · simp [Builtin.append_, run_underlying Tryd.underlying27, sizeOf, typeInfo, hi, Builtin.lenOf, Builtin.firstCells, loadCells, storeCells, hnc]
  obtain ⟨v', w', hr, h2, h3⟩ := hrun
  obtain ⟨a', c', rfl, _, _⟩ := owns_atN h2
  unfold Oper.wp execOp
  simp only [ho, resolve, invoke, builtin, Sem.run_bind, Sem.run_pure, Result.andThen_ok, List.map_toArray, List.map_cons, List.map_nil, hs, hx, hr]
  exact h a' _ c' w' rfl h2 h3
end Go.Proofs.YtmidembbanlleafDoor.OpR
