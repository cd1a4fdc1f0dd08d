/- Proves what impl.merged makes of two rows of props: one row, in memory of its own. -/
import Derived.Test.YtmidembbanlleafDoorITr
import Derived.Test.YtmidembbanlleafDoorRowG
import Derived.Test.YtmidembbanlleafDoorRowO
namespace Go.Proofs.YtmidembbanlleafDoor.OpR
open Go.ChangeShapes Go.WideShapes Go.ChangeAt Go.RowKit
set_option linter.unusedVariables false

def ltP (a b : PropV) : Bool := keyLt a.key b.key
def leP (a b : PropV) : Bool := !ltP b a
def mrgP (a b : List PropV) : List PropV := List.merge a b leP
theorem mrgP_nil_left (b : List PropV) : mrgP [] b = b := by simp [mrgP]
theorem mrgP_nil_right (a : List PropV) : mrgP a [] = a := by simp [mrgP]
theorem mrgP_right {x y : PropV} (a b : List PropV) (h : ltP y x = true) : mrgP (x :: a) (y :: b) = y :: mrgP (x :: a) b := by
  unfold mrgP; rw [List.cons_merge_cons]; simp [leP, h]
theorem mrgP_left {x y : PropV} (a b : List PropV) (h : ltP y x = false) : mrgP (x :: a) (y :: b) = x :: mrgP a (y :: b) := by
  unfold mrgP; rw [List.cons_merge_cons]; simp [leP, h]
theorem mrgP_perm (a b : List PropV) : (mrgP a b).Perm (a ++ b) := List.merge_perm_append leP
theorem mrgP_len (a b : List PropV) : (mrgP a b).length = a.length + b.length := by rw [(mrgP_perm a b).length_eq, List.length_append]

theorem PropsAt.at0P {w : World} {b off : Nat} {l : List PropV} (h : PropsAt w (some ⟨b, off, none⟩) l) {k : Nat} (hk : k < l.length) : PropAt w b (off + k * 2) l[k] := by
  obtain ⟨b', off', e, _, ho⟩ := h k hk
  cases e
  exact ho
theorem PropsAt.news {w : World} {ad : Addr} {l : List PropV} (h : PropsAt w (some ad) l) : ∀ j u, (flatG PropV.cells l)[j]? = some u → w.cell? (ad.add j) = some u := by
  intro j u hu
  have hj : j < l.length * 2 := by rw [← flatG_len prop_len]; exact (List.getElem?_eq_some_iff.1 hu).1
  obtain ⟨k, f, rfl, hf⟩ : ∃ k f, j = k * 2 + f ∧ f < 2 := ⟨j / 2, j % 2, by omega, by omega⟩
  have hk : k < l.length := by omega
  rw [flatG_get prop_len l k f hk hf] at hu
  obtain ⟨b', off', e, _, c0, c1⟩ := h k hk
  cases e
  rw [Addr.add_lit]
  match f, hf with
  | 0, _ => exact c0.trans hu
  | 1, _ => exact c1.trans hu
theorem PropsAt.nil_of {w : World} {l : List PropV} (h : PropsAt w none l) : l = [] := by
  cases l with
  | nil => rfl
  | cons o r => obtain ⟨b, off, e, _⟩ := h 0 (by simp); cases e
theorem oneP : ∀ (l : List PropV), ∀ u ∈ flatG PropV.cells l, u.oneCell' = true := by
  intro l u hu
  obtain ⟨o, _, ho⟩ := List.mem_flatMap.1 hu
  simp only [PropV.cells, List.mem_cons, List.not_mem_nil, or_false] at ho
  rcases ho with rfl | rfl <;> rfl
theorem one1P (o : PropV) : ∀ u ∈ o.cells, u.oneCell' = true := fun u hu => oneP [o] u (by simpa [flatG] using hu)
/-- A row that the call owns, at a place. -/
def OwnP (w : World) (base : Nat) (v : Value) (l : List PropV) : Prop := w.ownsRow base 72 2 v l.length (flatG PropV.cells l) ∧ v ≠ .slice none 0 0
theorem OwnP.at {w : World} {base : Nat} {v : Value} {l : List PropV} (h : OwnP w base v l) : ∃ g cap, v = .slice (some ⟨g, 0, none⟩) l.length cap ∧ base ≤ g ∧ g < w.heap.size ∧ l.length ≤ cap ∧ cap ≤ maxLen := by
  rcases h.1.2 with ⟨e, _⟩ | ⟨g, cap, cur, rfl, hb, hg, hl, hm, hs, ht⟩
  · exact absurd e h.2
  · exact ⟨g, cap, rfl, hb, (Array.getElem?_eq_some_iff.1 hg).1, hl, hm⟩
theorem OwnP.below {w w' : World} {base : Nat} {v : Value} {l : List PropV} (h : OwnP w base v l) (hb : Below w.heap.size w w') : OwnP w' base v l :=
  ⟨h.1.kept (row := none) ⟨hb.os, hb.tape, hb.output, hb.size, fun k hk _ => hb.block k hk⟩ (by cases hv : v.ownBlock <;> simp), h.2⟩
theorem owns_cellsP {w : World} {base : Nat} {ao : Option Addr} {cap : Nat} {l : List PropV} (h : w.ownsRow base 72 2 (.slice ao l.length cap) l.length (flatG PropV.cells l)) : PropsAt w ao l := by
  rcases h.2 with ⟨e, hn⟩ | ⟨g, cap', cur, e, hb, hg, h1, h2, h3, h4⟩
  · rw [List.eq_nil_of_length_eq_zero hn]
    exact fun j hj => absurd hj (by simp)
  · simp only [Value.slice.injEq] at e
    obtain ⟨rfl, _, _⟩ := e
    intro j hj
    refine ⟨g, 0, rfl, (Array.getElem?_eq_some_iff.1 hg).1, ?_⟩
    have hc := fun f (hf : f < 2) (u : Value) (hu : l[j].cells[f]? = some u) => h.cells rfl (j * 2 + f) u ((flatG_get prop_len l j f hj hf).trans hu)
    simp only [Addr.add_lit] at hc
    exact ⟨hc 0 (by omega) _ rfl, hc 1 (by omega) _ rfl⟩
theorem owns_atP {w : World} {base : Nat} {v : Value} {l : List PropV} (h : w.ownsRow base 72 2 v l.length (flatG PropV.cells l)) : ∃ ao c, v = .slice ao l.length c ∧ l.length ≤ c ∧ PropsAt w ao l := by
  have h' := h
  rcases h.2 with ⟨e, hn⟩ | ⟨g, cap', cur, e, hb, hg, h1, h2, h3, h4⟩
  · have hl : l = [] := List.eq_nil_of_length_eq_zero hn
    subst hl
    exact ⟨none, 0, e, Nat.le_refl _, fun j hj => absurd hj (by simp)⟩
  · rw [e] at h'
    exact ⟨_, cap', e, h1, owns_cellsP h'⟩
/-- Elements appended to a row that the call owns: whatever slice they lie in, nil too. -/
theorem wpList_append_P {ops : Array Oper} {rest : List Oper} {o : Oper} {a : Act} {w : World} {Q : Exit → Act → World → Prop} (hgd : o.guard = none) (s x : Operand)
    (ho : o.op = .call { callee := .builtin .append, args := #[s, x], argTypes := #[51, 51] })
    (base : Nat) (v : Value) (out : List PropV) (hs : a.eval s = v) (hown : w.ownsRow base 72 2 v out.length (flatG PropV.cells out))
    (ao : Option Addr) (m : List PropV) (c : Nat) (hx : a.eval x = .slice ao m.length c) (hA : PropsAt w ao m)
    (hlen : out.length + m.length ≤ 2200000) (hbase : base ≤ w.heap.size)
    (h : ∀ v' w', w'.ownsRow base 72 2 v' (out ++ m).length (flatG PropV.cells (out ++ m)) → w.grownBy w' v.ownBlock → (v' = .slice none 0 0 ↔ v = .slice none 0 0 ∧ m.length = 0) → wpList Tryd.prog ops Q rest (a.put o.dst v') w') : wpList Tryd.prog ops Q (o :: rest) a w := by
  obtain ⟨i0, hi, hzz⟩ := Option.map_eq_some_iff.1 infoProp
  simp only [Prod.mk.injEq] at hzz
  obtain ⟨hz0, hz1, hz2⟩ := hzz
  have hm : maxLen = 9223372036854775807 := rfl
  cases ao with
  | some ad =>
    refine wpList_append_own _ hgd s x 51 ho base 72 i0 _ 2 32 Tryd.underlying51 hi hz0 hz1 hz2 rfl (by decide) v out.length (flatG PropV.cells out) hs hown ad m.length c (flatG PropV.cells m) hx (flatG_len prop_len m) hA.news (oneP m) (by omega) (by omega) hbase (fun v' w' h1 h2 h3 => h v' w' ?_ h2 h3)
    rw [List.length_append, flatG_app]; exact h1
  | none =>
    obtain rfl := hA.nil_of
    have hrun : (Builtin.append_ #[51, 51] o.type #[v, .slice none 0 c]).run Tryd.prog w = .ok v w := by
      rcases hown.2 with ⟨rfl, _⟩ | ⟨g, cap, cur, rfl, _, _, hnc, _⟩
      · simp [Builtin.append_, run_underlying Tryd.underlying51, sizeOf, typeInfo, hi, Builtin.lenOf, Builtin.firstCells]
      · simp [Builtin.append_, run_underlying Tryd.underlying51, sizeOf, typeInfo, hi, Builtin.lenOf, Builtin.firstCells, loadCells, storeCells, hnc]
    refine wpList_plain hgd fun K hK => ?_
    have hx' : a.eval x = .slice none 0 c := hx
    unfold Oper.wp execOp
    simp only [ho, resolve, invoke, builtin, Sem.run_bind, Sem.run_pure, Result.andThen_ok, List.map_toArray, List.map_cons, List.map_nil, hs, hx', hrun]
    refine hK _ _ (h v w ?_ ⟨rfl, rfl, rfl, Nat.le_refl _, fun _ _ _ => rfl⟩ (by simp))
    rw [List.append_nil]; exact hown
/-- Where a slice from k on begins. -/
def fromP (o cap k : Nat) : Nat := if cap = k then o else o + k * 2
theorem slice_fromP (W : World) (g o len cap k : Nat) (K : Int) (hK : K = (k : Int)) (h : k ≤ len) :
    (Instr.slice 51 (.slice (some ⟨g, o, none⟩) len cap) (some (.int .i64 K)) none none).run Tryd.prog W = .ok (.slice (some ⟨g, fromP o cap k, none⟩) (len - k) (cap - k)) W := by
  subst hK
  have ht : Tryd.prog.underlying 51 = some (.slice (Tryd.prog.elem 51)) := by kernel_rfl
  have hs : ∀ w, (sizeOf (Tryd.prog.elem 51)).run Tryd.prog w = .ok 2 w := fun _ => by kernel_rfl
  rw [run_slice_l W 51 (some ⟨g, o, none⟩) len cap ht .i64 (k : Int) (by omega) (by omega), hs]
  simp only [Result.andThen, sliced, Int.toNat_natCast, Option.map_some, add_plain]
  unfold fromP
  by_cases e : cap = k
  · simp [e]
  · simp [e]
theorem slice_cutP (W : World) (g o len cap k : Nat) (K : Int) (hK : K = (k : Int)) (h : k ≤ cap) :
    (Instr.slice 51 (.slice (some ⟨g, o, none⟩) len cap) none (some (.int .i64 K)) (some (.int .i64 K))).run Tryd.prog W = .ok (.slice (some ⟨g, o, none⟩) k k) W := by
  subst hK
  have ht : Tryd.prog.underlying 51 = some (.slice (Tryd.prog.elem 51)) := by kernel_rfl
  have hs : ∀ w, (sizeOf (Tryd.prog.elem 51)).run Tryd.prog w = .ok 2 w := fun _ => by kernel_rfl
  rw [run_slice_hm W 51 (some ⟨g, o, none⟩) len cap ht .i64 .i64 (k : Int) (k : Int) (by omega) (by omega) (by omega), hs]
  simp [Result.andThen, sliced, Addr.add]
theorem PropsAt.from {w : World} {g o : Nat} {l : List PropV} (h : PropsAt w (some ⟨g, o, none⟩) l) {cap : Nat} (k : Nat) (hc : l.length ≤ cap) : PropsAt w (some ⟨g, fromP o cap k, none⟩) (l.drop k) := fun j hj => by
  have hj' : k + j < l.length := by rw [List.length_drop] at hj; omega
  have ho := h.at0P hj'
  obtain ⟨_, _, e, hlt, _⟩ := h (k + j) hj'
  cases e
  refine ⟨g, fromP o cap k, rfl, hlt, ?_⟩
  rw [List.getElem_drop]
  unfold fromP
  rw [if_neg (by omega), Nat.add_assoc, ← Nat.add_mul]
  exact ho
theorem PropsAt.take {w : World} {b off : Nat} {l : List PropV} (h : PropsAt w (some ⟨b, off, none⟩) l) (k : Nat) : PropsAt w (some ⟨b, off, none⟩) (l.take k) := fun j hj => by
  have hj' : j < l.length := by rw [List.length_take] at hj; omega
  obtain ⟨b', off', e, hlt, ho⟩ := h j hj'
  exact ⟨b', off', e, hlt, by rw [List.getElem_take]; exact ho⟩
theorem make_capP (n : Nat) (N : Int) (hN : N = (n : Int)) (hn : n ≤ 1048576) (w : World) : (Instr.makeSlice 51 (.int .i64 0) (.int .i64 N)).run Tryd.prog w = .ok (.slice (some ⟨w.heap.size, 0, none⟩) 0 n) (w.alloc (.cells (flatG PropV.cells (List.replicate n PropV.zero)).toArray 72)) := by
  subst hN
  obtain ⟨i, hi, hz⟩ := Option.map_eq_some_iff.1 infoProp
  simp only [Prod.mk.injEq] at hz
  obtain ⟨hz, hs, hb⟩ := hz
  have h := run_make (P := Tryd.prog) w 51 72 i _ Tryd.underlying51 hi hz .i64 .i64 0 n (by omega) (by omega) (by rw [hb]; omega) (by omega)
  simp only [Int.toNat_natCast, hs] at h
  rw [← made_cells prop_len (by omega) PropV.zero n]
  exact h
def aheadFnP : Value := .func (.func 54) #[] #[]
theorem news1P (x : World) (o : PropV) (T : TypeId) : ∀ j u, o.cells[j]? = some u → (x.alloc (.cells #[.string o.key, .string o.value] T)).drew.cell? ((⟨x.heap.size, 0, none⟩ : Addr).add j) = some u := by
  intro j u hu
  rw [Addr.add_lit, Nat.zero_add]
  show (x.alloc (.cells #[.string o.key, .string o.value] T)).cell? ⟨x.heap.size, j, none⟩ = some u
  rw [World.cell?_alloc_at _ _ _ _ rfl]
  simpa [PropV.cells] using hu
def sliceLenP : Value → Nat
  | .slice _ n _ => n
  | _ => 0
end Go.Proofs.YtmidembbanlleafDoor.OpR
