/- Rows that a call owns: appends of rows, slices of rows; impl.ownRows: the same rows, in new memory down to the texts. -/
import Derived.Test.YtmidembbanlleagRwM
import Derived.Test.YtmidembbanlleagRowS
import Derived.Test.YtmidembbanlleagClone
import Derived.Maps.AppendAt
namespace Go.Proofs.Ytmidembbanlleag.OpR
open Go.ChangeShapes Go.WideShapes Go.ChangeAt Go.RowKit
set_option linter.unusedVariables false

theorem PropsAt.at0R {w : World} {b off : Nat} {l : List PropV} (h : PropsAt w (some ⟨b, off, none⟩) l) {k : Nat} (hk : k < l.length) : PropAt w b (off + k * 2) l[k] := by
  obtain ⟨b', off', e, _, ho⟩ := h k hk
  cases e
  exact ho
theorem PropsAt.newsR {w : World} {ad : Addr} {l : List PropV} (h : PropsAt w (some ad) l) : ∀ j u, (flatG PropV.cells l)[j]? = some u → w.cell? (ad.add j) = some u := by
  intro j u hu
  have hj : j < l.length * 2 := by rw [← flatG_len prop_len]; exact (List.getElem?_eq_some_iff.1 hu).1
  obtain ⟨k, f, rfl, hf⟩ : ∃ k f, j = k * 2 + f ∧ f < 2 := ⟨j / 2, j % 2, by omega, by omega⟩
  have hk : k < l.length := by omega
  rw [flatG_get prop_len l k f hk hf] at hu
  obtain ⟨b', off', e, _, c0, c1⟩ := h k hk
  cases e
  rw [Addr.add_lit]
  match f, hf with
  | 0, _ => exact c0.trans hu
  | 1, _ => exact c1.trans hu
theorem PropsAt.nil_ofR {w : World} {l : List PropV} (h : PropsAt w none l) : l = [] := by
  cases l with
  | nil => rfl
  | cons o r => obtain ⟨b, off, e, _⟩ := h 0 (by simp); cases e
theorem oneRw : ∀ (l : List PropV), ∀ u ∈ flatG PropV.cells l, u.oneCell' = true := by
  intro l u hu
  obtain ⟨o, _, ho⟩ := List.mem_flatMap.1 hu
  simp only [PropV.cells, List.mem_cons, List.not_mem_nil, or_false] at ho
  rcases ho with rfl | rfl <;> rfl
theorem one1Rw (o : PropV) : ∀ u ∈ o.cells, u.oneCell' = true := fun u hu => oneRw [o] u (by simpa [flatG] using hu)
theorem owns_cellsR {w : World} {base : Nat} {ao : Option Addr} {cap : Nat} {l : List PropV} (h : w.ownsRow base 43 2 (.slice ao l.length cap) l.length (flatG PropV.cells l)) : PropsAt w ao l := by
  rcases h.2 with ⟨e, hn⟩ | ⟨g, cap', cur, e, hb, hg, h1, h2, h3, h4⟩
  · rw [List.eq_nil_of_length_eq_zero hn]
    exact fun j hj => absurd hj (by simp)
  · simp only [Value.slice.injEq] at e
    obtain ⟨rfl, _, _⟩ := e
    intro j hj
    refine ⟨g, 0, rfl, (Array.getElem?_eq_some_iff.1 hg).1, ?_⟩
    have hc := fun f (hf : f < 2) (u : Value) (hu : l[j].cells[f]? = some u) => h.cells rfl (j * 2 + f) u ((flatG_get prop_len l j f hj hf).trans hu)
    simp only [Addr.add_lit] at hc
    exact ⟨hc 0 (by omega) _ rfl, hc 1 (by omega) _ rfl⟩
theorem owns_atR {w : World} {base : Nat} {v : Value} {l : List PropV} (h : w.ownsRow base 43 2 v l.length (flatG PropV.cells l)) : ∃ ao c, v = .slice ao l.length c ∧ l.length ≤ c ∧ PropsAt w ao l := by
  have h' := h
  rcases h.2 with ⟨e, hn⟩ | ⟨g, cap', cur, e, hb, hg, h1, h2, h3, h4⟩
  · have hl : l = [] := List.eq_nil_of_length_eq_zero hn
    subst hl
    exact ⟨none, 0, e, Nat.le_refl _, fun j hj => absurd hj (by simp)⟩
  · rw [e] at h'
    exact ⟨_, cap', e, h1, owns_cellsR h'⟩
/-- Elements appended to a row that the call owns: whatever slice they lie in, nil too. -/
theorem wpList_append_R {ops : Array Oper} {rest : List Oper} {o : Oper} {a : Act} {w : World} {Q : Exit → Act → World → Prop} (hgd : o.guard = none) (s x : Operand)
    (ho : o.op = .call { callee := .builtin .append, args := #[s, x], argTypes := #[25, 25] })
    (base : Nat) (v : Value) (out : List PropV) (hs : a.eval s = v) (hown : w.ownsRow base 43 2 v out.length (flatG PropV.cells out))
    (ao : Option Addr) (m : List PropV) (c : Nat) (hx : a.eval x = .slice ao m.length c) (hA : PropsAt w ao m)
    (hlen : out.length + m.length ≤ 2200000) (hbase : base ≤ w.heap.size)
    (h : ∀ v' w', w'.ownsRow base 43 2 v' (out ++ m).length (flatG PropV.cells (out ++ m)) → w.grownBy w' v.ownBlock → (v' = .slice none 0 0 ↔ v = .slice none 0 0 ∧ m.length = 0) → wpList Try.prog ops Q rest (a.put o.dst v') w') : wpList Try.prog ops Q (o :: rest) a w := by
  obtain ⟨i0, hi, hzz⟩ := Option.map_eq_some_iff.1 infoRow
  simp only [Prod.mk.injEq] at hzz
  obtain ⟨hz0, hz1, hz2⟩ := hzz
  have hm : maxLen = 9223372036854775807 := rfl
  cases ao with
  | some ad =>
    refine wpList_append_own _ hgd s x 25 ho base 43 i0 _ 2 32 Try.underlying25 hi hz0 hz1 hz2 rfl (by decide) v out.length (flatG PropV.cells out) hs hown ad m.length c (flatG PropV.cells m) hx (flatG_len prop_len m) hA.newsR (oneRw m) (by omega) (by omega) hbase (fun v' w' h1 h2 h3 => h v' w' ?_ h2 h3)
    rw [List.length_append, flatG_app]; exact h1
  | none =>
    obtain rfl := hA.nil_ofR
    have hrun : (Builtin.append_ #[25, 25] o.type #[v, .slice none 0 c]).run Try.prog w = .ok v w := by
      rcases hown.2 with ⟨rfl, _⟩ | ⟨g, cap, cur, rfl, _, _, hnc, _⟩
      · simp [Builtin.append_, run_underlying Try.underlying25, sizeOf, typeInfo, hi, Builtin.lenOf, Builtin.firstCells]
      · simp [Builtin.append_, run_underlying Try.underlying25, sizeOf, typeInfo, hi, Builtin.lenOf, Builtin.firstCells, loadCells, storeCells, hnc]
    refine wpList_plain hgd fun K hK => ?_
    have hx' : a.eval x = .slice none 0 c := hx
    unfold Oper.wp execOp
    simp only [ho, resolve, invoke, builtin, Sem.run_bind, Sem.run_pure, Result.andThen_ok, List.map_toArray, List.map_cons, List.map_nil, hs, hx', hrun]
    refine hK _ _ (h v w ?_ ⟨rfl, rfl, rfl, Nat.le_refl _, fun _ _ _ => rfl⟩ (by simp))
    rw [List.append_nil]; exact hown
theorem step_append_R {ops : Array Oper} {o : Oper} {a : Act} {w : World} {K : Act → World → Prop} {Q : Exit → Act → World → Prop} {E : Prop} (hgd : o.guard = none) (s x : Operand)
    (ho : o.op = .call { callee := .builtin .append, args := #[s, x], argTypes := #[25, 25] })
    (base : Nat) (v : Value) (out : List PropV) (hs : a.eval s = v) (hown : w.ownsRow base 43 2 v out.length (flatG PropV.cells out))
    (ao : Option Addr) (m : List PropV) (c : Nat) (hx : a.eval x = .slice ao m.length c) (hA : PropsAt w ao m)
    (hlen : out.length + m.length ≤ 2200000) (hbase : base ≤ w.heap.size)
    (h : ∀ a' n' c' w', n' = (out ++ m).length → w'.ownsRow base 43 2 (.slice a' n' c') (out ++ m).length (flatG PropV.cells (out ++ m)) → w.grownBy w' v.ownBlock → K (a.put o.dst (.slice a' n' c')) w') :
    if Region.wanted o (yielded ops a.tmps) = true then Oper.wp Try.prog o a w K Q else E := by
  have hw : Region.wanted o (yielded ops a.tmps) = true := by simp [Region.wanted, hgd]
  rw [if_pos hw]
  obtain ⟨i0, hi, hzz⟩ := Option.map_eq_some_iff.1 infoRow
  simp only [Prod.mk.injEq] at hzz
  obtain ⟨hz0, hz1, hz2⟩ := hzz
  have hm : maxLen = 9223372036854775807 := rfl
  have hrun : ∃ v' w', (Builtin.append_ #[25, 25] o.type #[v, .slice ao m.length c]).run Try.prog w = .ok v' w' ∧ w'.ownsRow base 43 2 v' (out ++ m).length (flatG PropV.cells (out ++ m)) ∧ w.grownBy w' v.ownBlock := by
    cases ao with
    | some ad =>
      obtain ⟨v', w', hr, h2, h3, h4, h5⟩ := run_append_own_at (P := Try.prog) w base 25 o.type 43 i0 _ 2 32 Try.underlying25 hi hz0 hz1 hz2 rfl (by decide) v out.length (flatG PropV.cells out) hown ad m.length c (flatG PropV.cells m) (flatG_len prop_len m) hA.newsR (oneRw m) (by omega) (by omega) hbase
      exact ⟨v', w', hr, by rw [List.length_append, flatG_app]; exact h2, h3⟩
    | none =>
      obtain rfl := hA.nil_ofR
      refine ⟨v, w, ?_, by rw [List.append_nil]; exact hown, ⟨rfl, rfl, rfl, Nat.le_refl _, fun _ _ _ => rfl⟩⟩
      rcases hown.2 with ⟨rfl, _⟩ | ⟨g, cap, cur, rfl, _, _, hnc, _⟩
      · simp [Builtin.append_, run_underlying Try.underlying25, sizeOf, typeInfo, hi, Builtin.lenOf, Builtin.firstCells]
      · simp [Builtin.append_, run_underlying Try.underlying25, sizeOf, typeInfo, hi, Builtin.lenOf, Builtin.firstCells, loadCells, storeCells, hnc]
  obtain ⟨v', w', hr, h2, h3⟩ := hrun
  obtain ⟨a', c', rfl, _, _⟩ := owns_atR h2
  unfold Oper.wp execOp
  simp only [ho, resolve, invoke, builtin, Sem.run_bind, Sem.run_pure, Result.andThen_ok, List.map_toArray, List.map_cons, List.map_nil, hs, hx, hr]
  exact h a' _ c' w' rfl h2 h3
/-- The two parts of a slice of props, as slices. -/
theorem slice_takeR (ao : Option Addr) (cap : Nat) (l : List PropV) (hc : l.length ≤ cap) {k : Nat} (hk : k ≤ l.length) :
    ∃ (a1 : Option Addr) (c1 : Nat) (p : List PropV), p = l.take k ∧ (∀ W, (Instr.slice 25 (.slice ao l.length cap) none (some (.int .i64 (k : Int))) none).run Try.prog W = .ok (.slice a1 p.length c1) W) ∧ ∀ W, PropsAt W ao l → PropsAt W a1 p := by
  have ht : Try.prog.underlying 25 = some (.slice (Try.prog.elem 25)) := by kernel_rfl
  have hs : ∀ w, (sizeOf (Try.prog.elem 25)).run Try.prog w = .ok 2 w := fun _ => by kernel_rfl
  have e1 : (l.take k).length = k := by rw [List.length_take]; omega
  refine ⟨if cap = 0 then ao else ao.map (·.add (0 * 2)), cap, _, rfl, fun W => ?_, fun W hW j hj => ?_⟩
  · rw [e1, run_slice_h W 25 ao l.length cap ht .i64 (k : Int) (by omega) (by omega), hs]
    simp [Result.andThen, sliced]
  · have hj' : j < l.length := by rw [List.length_take] at hj; omega
    obtain ⟨b, off, e, hlt, ho⟩ := hW j hj'
    refine ⟨b, off, ?_, hlt, by rw [List.getElem_take]; exact ho⟩
    rw [e]
    simp [Addr.add]
theorem slice_dropR (ao : Option Addr) (cap : Nat) (l : List PropV) (hc : l.length ≤ cap) {k : Nat} (hk : k ≤ l.length) :
    ∃ (a2 : Option Addr) (c2 : Nat) (q : List PropV), q = l.drop k ∧ (∀ W, (Instr.slice 25 (.slice ao l.length cap) (some (.int .i64 (k : Int))) none none).run Try.prog W = .ok (.slice a2 q.length c2) W) ∧ (∀ W, PropsAt W ao l → PropsAt W a2 q) ∧ q.length ≤ c2 := by
  have ht : Try.prog.underlying 25 = some (.slice (Try.prog.elem 25)) := by kernel_rfl
  have hs : ∀ w, (sizeOf (Try.prog.elem 25)).run Try.prog w = .ok 2 w := fun _ => by kernel_rfl
  have e2 : (l.drop k).length = l.length - k := by rw [List.length_drop]
  refine ⟨if cap = k then ao else ao.map (·.add (k * 2)), cap - k, _, rfl, fun W => ?_, fun W hW j hj => ?_, by rw [e2]; omega⟩
  · rw [e2, run_slice_l W 25 ao l.length cap ht .i64 (k : Int) (by omega) (by omega), hs]
    simp [Result.andThen, sliced]
  · have hj' : k + j < l.length := by rw [List.length_drop] at hj; omega
    obtain ⟨b, off, e, hlt, ho⟩ := hW (k + j) hj'
    refine ⟨b, off + k * 2, ?_, hlt, ?_⟩
    · rw [if_neg (by omega), e]
      simp [Addr.add]
    · rw [List.getElem_drop, Nat.add_assoc, ← Nat.add_mul]
      exact ho
/-- A row of its own, new. -/
theorem newRow (x : World) (k v : ByteArray) (T : TypeId) : PropsAt (x.alloc (.cells #[.string k, .string v] T)) (some ⟨x.heap.size, 0, none⟩) [⟨k, v⟩] := fun j hj => by
  obtain rfl : j = 0 := by simp at hj; exact hj
  refine ⟨x.heap.size, 0, rfl, by simp, ?_, ?_⟩
  · rw [World.cell?_alloc_at _ _ _ _ rfl]; rfl
  · rw [World.cell?_alloc_at _ _ _ _ rfl]; rfl
theorem newRw2 (W : World) (x : PropV) : ∀ j u, x.cells[j]? = some u → (W.alloc (.cells #[.string x.key, .string x.value] 43)).cell? ((⟨W.heap.size, 0, none⟩ : Addr).add j) = some u := by
  intro j u hu
  rw [Addr.add_lit, Nat.zero_add, World.cell?_alloc_at _ _ _ _ rfl]
  simpa [PropV.cells] using hu
theorem cellsRw2 {w : World} {g : Nat} {v0 v1 : Value} {T : TypeId} (h : w.heap[g]? = some (.cells #[v0, v1] T (0, 0))) : w.cell? ⟨g, 0, none⟩ = some v0 ∧ w.cell? ⟨g, 1, none⟩ = some v1 := by
  exact ⟨by simp [World.cell?, h], by simp [World.cell?, h]⟩
set_option maxRecDepth 100000 in
set_option maxHeartbeats 1000000 in
theorem ownRows_any (l : List PropV) (ao : Option Addr) (cap : Nat) (w : World) (hl : l.length ≤ 1048576) (hA : PropsAt w ao l) (hS : SizedP 1048576 l) :
    Calls Try.prog 37 #[.slice ao l.length cap] w fun e w' => ∃ v, e = .returned v ∧ w'.ownsRow w.heap.size 43 2 v l.length (flatG PropV.cells l) ∧ Below w.heap.size w w' := by
  have HA : Hid (PropsAt w ao l) := ⟨hA⟩
  have HS := hide hS
  clear hA hS
  obtain ⟨i0, hi, hz0, hz1, hz2⟩ := info_parts infoRow
  go_enter Try.func37, Try.ntmps37
  go_wp2
  go_loopw [3, 8] (fun v i wr => ∃ k : Nat, k ≤ l.length ∧ i = .int .i64 k ∧ wr.ownsRow w.heap.size 43 2 v k (flatG PropV.cells (l.take k)) ∧ Below w.heap.size w wr) (fun _ i _ => l.length - (intOf i).toNat)
  case atStart => exact ⟨0, by omega, rfl, World.ownsRow_nil _ _ _ _, Below.refl _ _⟩
  case round =>
    obtain ⟨k, hk, rfl, hO, hb⟩ := hrel
    have HO := hide hO
    clear hO
    by_cases h : k < l.length
    · obtain ⟨b, off, rfl, hlt, ho⟩ := HA.out k h
      obtain ⟨c0, c1⟩ := ho.block (w' := wr) (hb.block b hlt)
      have hsz := HS.out _ (List.getElem_mem h)
      obtain ⟨s, hs⟩ : ∃ s, l[k] = s := ⟨_, rfl⟩
      rw [hs] at c0 c1 hsz
      have HE := hide hs
      have hC0 := fun W => NumR.clone_any s.key W (by omega)
      have hC1 := fun W => NumR.clone_any s.value W (by omega)
      have hi0 : (0 : Int) ≤ (k : Int) := by omega
      have hi1 : (k : Int) < (l.length : Int) := by omega
      have hbs := hb.size
      clear ho hs hsz
      have HB : Hid (Below w.heap.size w wr) := ⟨hb⟩
      have L0 : (wr.alloc (.cells #[.string s.key, .string s.value] 43)).heap[wr.heap.size]? = some (.cells #[.string s.key, .string s.value] 43 (0, 0)) := heap_alloc_new wr _
      have HL0 := hide L0
      have HO0 := hide (HO.out.alloc (.cells #[.string s.key, .string s.value] 43))
      obtain ⟨p0, p1⟩ := cellsRw2 L0
      clear L0
      have m1 : Hid True := ⟨trivial⟩
      have HXB := hide (hb.alloc hb.size (.cells #[.string s.key, .string s.value] 43))
      have hXs : w.heap.size ≤ (wr.alloc (.cells #[.string s.key, .string s.value] 43)).heap.size := by simp; omega
      go_wp2_with fail
      obtain ⟨X, hX⟩ : ∃ X, wr.alloc (.cells #[.string s.key, .string s.value] 43) = X := ⟨_, rfl⟩
      rw [hX] at HL0 HO0 HXB p0 p1 hXs ⊢
      clear hX c0 c1
      have hp0 : X.drew.cell? ⟨wr.heap.size, 0, none⟩ = some (.string s.key) ∧ X.drew.cell? ⟨wr.heap.size, 1, none⟩ = some (.string s.value) := ⟨p0, p1⟩
      go_region_held3 (fun w' => w'.cell? ⟨wr.heap.size, 0, none⟩ = some (.string s.key) ∧ w'.cell? ⟨wr.heap.size, 1, none⟩ = some (.string s.value)) (first | with_reducible exact hp0 | with_reducible exact hp1 | with_reducible exact hp2 | with_reducible exact hp3 | with_reducible exact hp4) (first | (go_at_call 29; clear m1; refine (hC0 _).mono ?_; rintro e x1 ⟨rfl, hx1⟩; have hB1 : Below w.heap.size w x1 := HXB.out.drew.trans (hx1.mono (by simpa using hXs)); have HL1 := hide ((hx1.block _ (Array.getElem?_eq_some_iff.1 HL0.out).1).trans HL0.out); have hp1 := cellsRw2 HL1.out; have HO1 := hide (owns_stays2 HO0.out ((Below.refl _ _).drew.trans hx1)); clear hC0 hp0) | (go_at_call 29; refine (hC1 _).mono ?_; rintro e x2 ⟨rfl, hx2⟩; have hB2 : Below w.heap.size w x2 := hB1.trans (hx2.mono hB1.size); have hB2s := hB2.size; have HL2 := hide ((hx2.block _ (Array.getElem?_eq_some_iff.1 HL1.out).1).trans HL1.out); have hp2 := cellsRw2 HL2.out; have HO2 := hide (owns_stays2 HO1.out hx2); have hp3 := cellsRw2 ((Below.heap_alloc x2 (.cells #[.string s.key, .string s.value] 43) _ (Array.getElem?_eq_some_iff.1 HL2.out).1).trans HL2.out); clear hC1 hp1) | (refine step_append_lies _ (by rfl) _ _ _ (by rfl) w.heap.size 43 i0 _ 2 32 Try.underlying25 hi hz0 hz1 hz2 rfl (by decide) _ k (flatG PropV.cells (l.take k)) (by rfl) (HO2.out.alloc _) ⟨x2.heap.size, 0, none⟩ 1 1 s.cells (by rfl) rfl (newRw2 x2 _) (one1Rw _) (by omega) (by unfold maxLen; omega) (by omega) (by simp; omega) (x2.heap.size + 1) (by simp) ?_; intro gn cn y1 hown hgrow hatn hltn; have hp4 := cellsRw2 ((hgrow.block wr.heap.size (by have := (Array.getElem?_eq_some_iff.1 HL2.out).1; simp; omega) (fun e => by have := (HO.out.lt _ e.symm).2; omega)).trans ((Below.heap_alloc x2 (.cells #[.string s.key, .string s.value] 43) _ (Array.getElem?_eq_some_iff.1 HL2.out).1).trans HL2.out))))
      have hB4 : Below w.heap.size w y1 := (hB2.alloc hB2s _).grown hgrow (by simp; omega) (fun j hj => (HO.out.lt j hj).1)
      have HO4 : Hid (y1.ownsRow w.heap.size 43 2 (.slice (some ⟨gn, 0, none⟩) (k + 1) cn) (k + 1) (flatG PropV.cells (l.take (k + 1)))) := ⟨by
        rw [List.take_add_one, List.getElem?_eq_getElem h, HE.out, Option.toList_some, flatG_app]
        simpa [flatG] using hown⟩
      clear hown hgrow hp4 hatn
      go_wp2
      go_roundw
      case rel => exact ⟨k + 1, by omega, by go_num, HO4.out, hB4⟩
      case measure => simp [intOf]; omega
    · obtain rfl : k = l.length := by omega
      have HF : Hid (wr.ownsRow w.heap.size 43 2 u3 l.length (flatG PropV.cells l)) := ⟨by have := HO.out; rwa [List.take_length] at this⟩
      go_wp2
      go_ret
      exact ⟨_, rfl, HF.out, hb⟩
end Go.Proofs.Ytmidembbanlleag.OpR
