/- Changes that a call owns: appends of changes. -/
import Derived.Test.YtmidembbanlleagChM
import Derived.Test.YtmidembbanlleagRowS
import Derived.Maps.AppendAt
namespace Go.Proofs.Ytmidembbanlleag.OpR
open Go.ChangeShapes Go.WideShapes Go.ChangeAt Go.RowKit
set_option linter.unusedVariables false

theorem ChsAt.at0C {w : World} {b off : Nat} {l : List ChV} (h : ChsAt w (some ⟨b, off, none⟩) l) {k : Nat} (hk : k < l.length) : ChAt w b (off + k * 3) l[k] := by
  obtain ⟨b', off', e, _, ho⟩ := h k hk
  cases e
  exact ho
theorem ChsAt.news {w : World} {ad : Addr} {l : List ChV} (h : ChsAt w (some ad) l) : ∀ j u, (flatG ChV.cells l)[j]? = some u → w.cell? (ad.add j) = some u := by
  intro j u hu
  have hj : j < l.length * 3 := by rw [← flatG_len ch_len]; exact (List.getElem?_eq_some_iff.1 hu).1
  obtain ⟨k, f, rfl, hf⟩ : ∃ k f, j = k * 3 + f ∧ f < 3 := ⟨j / 3, j % 3, by omega, by omega⟩
  have hk : k < l.length := by omega
  rw [flatG_get ch_len l k f hk hf] at hu
  obtain ⟨b', off', e, _, c0, c1, c2⟩ := h k hk
  cases e
  rw [Addr.add_lit]
  match f, hf with
  | 0, _ => exact c0.trans hu
  | 1, _ => exact c1.trans hu
  | 2, _ => exact c2.trans hu
theorem ChsAt.nil_of {w : World} {l : List ChV} (h : ChsAt w none l) : l = [] := by
  cases l with
  | nil => rfl
  | cons o r => obtain ⟨b, off, e, _⟩ := h 0 (by simp); cases e
theorem oneC : ∀ (l : List ChV), ∀ u ∈ flatG ChV.cells l, u.oneCell' = true := by
  intro l u hu
  obtain ⟨o, _, ho⟩ := List.mem_flatMap.1 hu
  simp only [ChV.cells, List.mem_cons, List.not_mem_nil, or_false] at ho
  rcases ho with rfl | rfl | rfl <;> rfl
theorem one1C (o : ChV) : ∀ u ∈ o.cells, u.oneCell' = true := fun u hu => oneC [o] u (by simpa [flatG] using hu)
theorem owns_cellsC {w : World} {base : Nat} {ao : Option Addr} {cap : Nat} {l : List ChV} (h : w.ownsRow base 48 3 (.slice ao l.length cap) l.length (flatG ChV.cells l)) : ChsAt w ao l := by
  rcases h.2 with ⟨e, hn⟩ | ⟨g, cap', cur, e, hb, hg, h1, h2, h3, h4⟩
  · rw [List.eq_nil_of_length_eq_zero hn]
    exact fun j hj => absurd hj (by simp)
  · simp only [Value.slice.injEq] at e
    obtain ⟨rfl, _, _⟩ := e
    intro j hj
    refine ⟨g, 0, rfl, (Array.getElem?_eq_some_iff.1 hg).1, ?_⟩
    have hc := fun f (hf : f < 3) (u : Value) (hu : l[j].cells[f]? = some u) => h.cells rfl (j * 3 + f) u ((flatG_get ch_len l j f hj hf).trans hu)
    simp only [Addr.add_lit] at hc
    exact ⟨hc 0 (by omega) _ rfl, hc 1 (by omega) _ rfl, hc 2 (by omega) _ rfl⟩
theorem owns_atC {w : World} {base : Nat} {v : Value} {l : List ChV} (h : w.ownsRow base 48 3 v l.length (flatG ChV.cells l)) : ∃ ao c, v = .slice ao l.length c ∧ l.length ≤ c ∧ ChsAt w ao l := by
  have h' := h
  rcases h.2 with ⟨e, hn⟩ | ⟨g, cap', cur, e, hb, hg, h1, h2, h3, h4⟩
  · have hl : l = [] := List.eq_nil_of_length_eq_zero hn
    subst hl
    exact ⟨none, 0, e, Nat.le_refl _, fun j hj => absurd hj (by simp)⟩
  · rw [e] at h'
    exact ⟨_, cap', e, h1, owns_cellsC h'⟩
/-- Elements appended to a row that the call owns: whatever slice they lie in, nil too. -/
theorem wpList_append_C {ops : Array Oper} {rest : List Oper} {o : Oper} {a : Act} {w : World} {Q : Exit → Act → World → Prop} (hgd : o.guard = none) (s x : Operand)
    (ho : o.op = .call { callee := .builtin .append, args := #[s, x], argTypes := #[29, 29] })
    (base : Nat) (v : Value) (out : List ChV) (hs : a.eval s = v) (hown : w.ownsRow base 48 3 v out.length (flatG ChV.cells out))
    (ao : Option Addr) (m : List ChV) (c : Nat) (hx : a.eval x = .slice ao m.length c) (hA : ChsAt w ao m)
    (hlen : out.length + m.length ≤ 2200000) (hbase : base ≤ w.heap.size)
    (h : ∀ v' w', w'.ownsRow base 48 3 v' (out ++ m).length (flatG ChV.cells (out ++ m)) → w.grownBy w' v.ownBlock → (v' = .slice none 0 0 ↔ v = .slice none 0 0 ∧ m.length = 0) → wpList Try.prog ops Q rest (a.put o.dst v') w') : wpList Try.prog ops Q (o :: rest) a w := by
  obtain ⟨i0, hi, hzz⟩ := Option.map_eq_some_iff.1 infoChange
  simp only [Prod.mk.injEq] at hzz
  obtain ⟨hz0, hz1, hz2⟩ := hzz
  have hm : maxLen = 9223372036854775807 := rfl
  cases ao with
  | some ad =>
    refine wpList_append_own _ hgd s x 29 ho base 48 i0 _ 3 40 Try.underlying29 hi hz0 hz1 hz2 rfl (by decide) v out.length (flatG ChV.cells out) hs hown ad m.length c (flatG ChV.cells m) hx (flatG_len ch_len m) hA.news (oneC m) (by omega) (by omega) hbase (fun v' w' h1 h2 h3 => h v' w' ?_ h2 h3)
    rw [List.length_append, flatG_app]; exact h1
  | none =>
    obtain rfl := hA.nil_of
    have hrun : (Builtin.append_ #[29, 29] o.type #[v, .slice none 0 c]).run Try.prog w = .ok v w := by
      rcases hown.2 with ⟨rfl, _⟩ | ⟨g, cap, cur, rfl, _, _, hnc, _⟩
      · simp [Builtin.append_, run_underlying Try.underlying29, sizeOf, typeInfo, hi, Builtin.lenOf, Builtin.firstCells]
      · simp [Builtin.append_, run_underlying Try.underlying29, sizeOf, typeInfo, hi, Builtin.lenOf, Builtin.firstCells, loadCells, storeCells, hnc]
    refine wpList_plain hgd fun K hK => ?_
    have hx' : a.eval x = .slice none 0 c := hx
    unfold Oper.wp execOp
    simp only [ho, resolve, invoke, builtin, Sem.run_bind, Sem.run_pure, Result.andThen_ok, List.map_toArray, List.map_cons, List.map_nil, hs, hx', hrun]
    refine hK _ _ (h v w ?_ ⟨rfl, rfl, rfl, Nat.le_refl _, fun _ _ _ => rfl⟩ (by simp))
    rw [List.append_nil]; exact hown
theorem step_append_C {ops : Array Oper} {o : Oper} {a : Act} {w : World} {K : Act → World → Prop} {Q : Exit → Act → World → Prop} {E : Prop} (hgd : o.guard = none) (s x : Operand)
    (ho : o.op = .call { callee := .builtin .append, args := #[s, x], argTypes := #[29, 29] })
    (base : Nat) (v : Value) (out : List ChV) (hs : a.eval s = v) (hown : w.ownsRow base 48 3 v out.length (flatG ChV.cells out))
    (ao : Option Addr) (m : List ChV) (c : Nat) (hx : a.eval x = .slice ao m.length c) (hA : ChsAt w ao m)
    (hlen : out.length + m.length ≤ 2200000) (hbase : base ≤ w.heap.size)
    (h : ∀ a' n' c' w', n' = (out ++ m).length → w'.ownsRow base 48 3 (.slice a' n' c') (out ++ m).length (flatG ChV.cells (out ++ m)) → w.grownBy w' v.ownBlock → K (a.put o.dst (.slice a' n' c')) w') :
    if Region.wanted o (yielded ops a.tmps) = true then Oper.wp Try.prog o a w K Q else E := by
  have hw : Region.wanted o (yielded ops a.tmps) = true := by simp [Region.wanted, hgd]
  rw [if_pos hw]
  obtain ⟨i0, hi, hzz⟩ := Option.map_eq_some_iff.1 infoChange
  simp only [Prod.mk.injEq] at hzz
  obtain ⟨hz0, hz1, hz2⟩ := hzz
  have hm : maxLen = 9223372036854775807 := rfl
  have hrun : ∃ v' w', (Builtin.append_ #[29, 29] o.type #[v, .slice ao m.length c]).run Try.prog w = .ok v' w' ∧ w'.ownsRow base 48 3 v' (out ++ m).length (flatG ChV.cells (out ++ m)) ∧ w.grownBy w' v.ownBlock := by
    cases ao with
    | some ad =>
      obtain ⟨v', w', hr, h2, h3, h4, h5⟩ := run_append_own_at (P := Try.prog) w base 29 o.type 48 i0 _ 3 40 Try.underlying29 hi hz0 hz1 hz2 rfl (by decide) v out.length (flatG ChV.cells out) hown ad m.length c (flatG ChV.cells m) (flatG_len ch_len m) hA.news (oneC m) (by omega) (by omega) hbase
      exact ⟨v', w', hr, by rw [List.length_append, flatG_app]; exact h2, h3⟩
    | none =>
      obtain rfl := hA.nil_of
      refine ⟨v, w, ?_, by rw [List.append_nil]; exact hown, ⟨rfl, rfl, rfl, Nat.le_refl _, fun _ _ _ => rfl⟩⟩
      rcases hown.2 with ⟨rfl, _⟩ | ⟨g, cap, cur, rfl, _, _, hnc, _⟩
      · simp [Builtin.append_, run_underlying Try.underlying29, sizeOf, typeInfo, hi, Builtin.lenOf, Builtin.firstCells]
      · simp [Builtin.append_, run_underlying Try.underlying29, sizeOf, typeInfo, hi, Builtin.lenOf, Builtin.firstCells, loadCells, storeCells, hnc]
  obtain ⟨v', w', hr, h2, h3⟩ := hrun
  obtain ⟨a', c', rfl, _, _⟩ := owns_atC h2
  unfold Oper.wp execOp
  simp only [ho, resolve, invoke, builtin, Sem.run_bind, Sem.run_pure, Result.andThen_ok, List.map_toArray, List.map_cons, List.map_nil, hs, hx, hr]
  exact h a' _ c' w' rfl h2 h3
/-- A change of its own, new. -/
theorem newCh (x : World) (k : ByteArray) (b : Bool) (v : ByteArray) (T : TypeId) : ChsAt (x.alloc (.cells #[.string k, .bool b, .string v] T)) (some ⟨x.heap.size, 0, none⟩) [⟨k, b, v⟩] := fun j hj => by
  obtain rfl : j = 0 := by simp at hj; exact hj
  refine ⟨x.heap.size, 0, rfl, by simp, ?_, ?_, ?_⟩
  · rw [World.cell?_alloc_at _ _ _ _ rfl]; rfl
  · rw [World.cell?_alloc_at _ _ _ _ rfl]; rfl
  · rw [World.cell?_alloc_at _ _ _ _ rfl]; rfl
theorem empty_rowC (X : World) : (X.alloc (.cells #[] 48)).ownsRow X.heap.size 48 3 (.slice (some ⟨X.heap.size, 0, none⟩) 0 0) ([] : List ChV).length (flatG ChV.cells []) :=
  World.ownsRow_made X #[] 0 (Nat.le_refl _) (by decide) rfl
end Go.Proofs.Ytmidembbanlleag.OpR
