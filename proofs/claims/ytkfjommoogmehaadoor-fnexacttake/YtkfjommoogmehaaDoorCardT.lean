/- What a row that lists the seven errors of impl gives a walk: made by mksn.py, for FnExactTake. -/
import Derived.Test.YtkfjommoogmehaaDoorIsE
import Derived.Test.YtkfjommoogmehaaDoorRows
import Derived.Stop.LaidErr
import Derived.LaidLaws
namespace Go.Proofs.YtkfjommoogmehaaDoor.OpR
open Go.ChangeShapes Go.WideShapes Go.ChangeAt Go.RowKit
set_option linter.unusedVariables false

theorem sent_step {P : Program} {W : World} {n nm : String} {text : List UInt8} {r : List (String × DataW Unit)} {ps : List MemPlace} {g : Nat} {ti tp te ts : TypeId} {ms : Array (String × TypeId)} {f : Field}
    (h : DataW.LaidVars P W ((n, .iface nm (.ptr (.agg [.lit (.string text)]))) :: r) ps)
    (hg : P.globalNamed n = some g) (ht : (P.globals[g]?).map (·.type) = some ti)
    (hi : P.underlying ti = some (.interface ms)) (hrow : ∀ u, P.typeName? 3 u = some nm → u = tp)
    (hp : P.underlying tp = some (.pointer te)) (he : P.underlying te = some (.struct #[f])) (hft : f.type = ts) (hfo : f.offset = 0) (hs : P.underlying ts = some .string) (hc : P.cellsOf te = 1) (hcs : P.cellsOf ts = 1)
    (hrows : ∀ b off, MemPlace.cell b off ∈ ps → (∃ c t, W.heap[b]? = some (.cells c t (0, 0))) ∧ ∀ u v, W.cell? ⟨b, off, none⟩ = some (.iface u v) → Value.okWide P W .any 0 u v) :
    ∃ a q, DataW.LaidVars P W r q ∧ ps = .cell g 0 :: .cell a.block a.off :: q ∧ W.var? P n = some #[.iface tp (.pointer (some a))] ∧ ∃ c t, W.heap[a.block]? = some (.cells c t (0, 0)) := by
  obtain ⟨g', t', cs, fu, p, q, hg', ht', hv, hd, hq, e⟩ := h
  obtain rfl := Option.some.inj (hg.symm.trans hg')
  obtain rfl := Option.some.inj (ht.symm.trans ht')
  subst e
  obtain ⟨l⟩ := cs
  have ok : ∀ u v, l = [.iface u v] → Value.okWide P W .any 0 u v := fun u v e => by
    subst e
    exact (hrows g 0 (by simp [MemPlace.row])).2 u v (by simpa using World.var?_cell hg' hv 0)
  obtain ⟨a, s, rfl, hc0, hs0, hz0, rfl⟩ := errorString_of_trod hi hrow hp he hft hfo hs hc hcs hd ok
  exact ⟨a, q, hq, by simp [MemPlace.row], hv, (hrows a.block a.off (by simp [MemPlace.row])).1⟩
theorem seven_g {g : Nat} (h : g < 7) : g = 0 ∨ g = 1 ∨ g = 2 ∨ g = 3 ∨ g = 4 ∨ g = 5 ∨ g = 6 := by omega
def posE (g : Nat) : Nat := if g = 2 then 4 else if g = 3 then 2 else if g = 4 then 3 else g
theorem posE_lt : ∀ g, g < 7 → posE g < 7 := by decide
theorem posE_ne : ∀ g, g < 7 → ∀ h, h < 7 → g ≠ h → posE g ≠ posE h := by decide
theorem star_es : "*" ++ "errors.errorString" = "*errors.errorString" := by decide
theorem rowE (u : TypeId) (h : Tryd.prog.typeName? 3 u = some "*errors.errorString") : u = 109 :=
  typeName_ptr_named (nm := "errors.errorString") (by rw [star_es]; kernel_rfl) (by kernel_rfl) (by decide) u (by rw [star_es]; exact h)
theorem cellsES : Tryd.prog.cellsOf 134 = 1 := by kernel_rfl
theorem cellsSt : Tryd.prog.cellsOf 9 = 1 := by kernel_rfl
theorem varE_block {P : Program} {W W' : World} {n : String} {g : Nat} (hg : P.globalNamed n = some g) (hb : W'.heap[g]? = W.heap[g]?) : W'.var? P n = W.var? P n := by
  simp [World.var?, hg, hb]

theorem gn0 : Tryd.prog.globalNamed "loop.example/g00378/impl.errTooLong" = some 0 := by kernel_rfl
theorem gt0 : (Tryd.prog.globals[0]?).map (·.type) = some 61 := by kernel_rfl
theorem gn1 : Tryd.prog.globalNamed "loop.example/g00378/impl.errNotRight" = some 1 := by kernel_rfl
theorem gt1 : (Tryd.prog.globals[1]?).map (·.type) = some 61 := by kernel_rfl
theorem gn2 : Tryd.prog.globalNamed "loop.example/g00378/impl.errPlace" = some 2 := by kernel_rfl
theorem gt2 : (Tryd.prog.globals[2]?).map (·.type) = some 61 := by kernel_rfl
theorem gn3 : Tryd.prog.globalNamed "loop.example/g00378/impl.errNoSuch" = some 3 := by kernel_rfl
theorem gt3 : (Tryd.prog.globals[3]?).map (·.type) = some 61 := by kernel_rfl
theorem gn4 : Tryd.prog.globalNamed "loop.example/g00378/impl.errAnother" = some 4 := by kernel_rfl
theorem gt4 : (Tryd.prog.globals[4]?).map (·.type) = some 61 := by kernel_rfl
theorem gn5 : Tryd.prog.globalNamed "loop.example/g00378/impl.errNoRoom" = some 5 := by kernel_rfl
theorem gt5 : (Tryd.prog.globals[5]?).map (·.type) = some 61 := by kernel_rfl
theorem gn6 : Tryd.prog.globalNamed "loop.example/g00378/impl.errLoop" = some 6 := by kernel_rfl
theorem gt6 : (Tryd.prog.globals[6]?).map (·.type) = some 61 := by kernel_rfl
/-- The seven variables, and what they lead to. -/
structure Vars7 (W : World) (f : Nat → Addr) : Prop where
  v0 : W.var? Tryd.prog "loop.example/g00378/impl.errTooLong" = some #[.iface 109 (.pointer (some (f 0)))]
  v1 : W.var? Tryd.prog "loop.example/g00378/impl.errNotRight" = some #[.iface 109 (.pointer (some (f 1)))]
  v2 : W.var? Tryd.prog "loop.example/g00378/impl.errPlace" = some #[.iface 109 (.pointer (some (f 2)))]
  v3 : W.var? Tryd.prog "loop.example/g00378/impl.errNoSuch" = some #[.iface 109 (.pointer (some (f 3)))]
  v4 : W.var? Tryd.prog "loop.example/g00378/impl.errAnother" = some #[.iface 109 (.pointer (some (f 4)))]
  v5 : W.var? Tryd.prog "loop.example/g00378/impl.errNoRoom" = some #[.iface 109 (.pointer (some (f 5)))]
  v6 : W.var? Tryd.prog "loop.example/g00378/impl.errLoop" = some #[.iface 109 (.pointer (some (f 6)))]
theorem Vars7.step {W W' : World} {f : Nat → Addr} (h : Vars7 W f) (hb : ∀ g, g < 7 → W'.heap[g]? = W.heap[g]?) : Vars7 W' f :=
  ⟨(varE_block gn0 (hb 0 (by omega))).trans h.v0, (varE_block gn1 (hb 1 (by omega))).trans h.v1, (varE_block gn2 (hb 2 (by omega))).trans h.v2, (varE_block gn3 (hb 3 (by omega))).trans h.v3, (varE_block gn4 (hb 4 (by omega))).trans h.v4, (varE_block gn5 (hb 5 (by omega))).trans h.v5, (varE_block gn6 (hb 6 (by omega))).trans h.v6⟩
theorem sents_of_laid {W : World} (h : laidMet Tryd.prog Rows.fnExactTakeRow.laid W) : ∃ f, Sents W f ∧ Vars7 W f := by
  obtain ⟨ps, hl, hnd, hrows⟩ := h
  obtain ⟨a0, q0, hl, e0, v0, b0⟩ := sent_step hl gn0 gt0 Tryd.underlying61 rowE Tryd.underlying109 Tryd.underlying134 rfl rfl Tryd.underlying9 cellsES cellsSt hrows
  have hr1 : ∀ b off, MemPlace.cell b off ∈ q0 → _ := fun b off hm => hrows b off (by rw [e0]; exact List.mem_cons_of_mem _ (List.mem_cons_of_mem _ hm))
  obtain ⟨a1, q1, hl, e1, v1, b1⟩ := sent_step hl gn1 gt1 Tryd.underlying61 rowE Tryd.underlying109 Tryd.underlying134 rfl rfl Tryd.underlying9 cellsES cellsSt (fun b off hm => hr1 b off hm)
  have hr2 : ∀ b off, MemPlace.cell b off ∈ q1 → _ := fun b off hm => hr1 b off (by rw [e1]; exact List.mem_cons_of_mem _ (List.mem_cons_of_mem _ hm))
  obtain ⟨a3, q2, hl, e2, v3, b3⟩ := sent_step hl gn3 gt3 Tryd.underlying61 rowE Tryd.underlying109 Tryd.underlying134 rfl rfl Tryd.underlying9 cellsES cellsSt (fun b off hm => hr2 b off hm)
  have hr3 : ∀ b off, MemPlace.cell b off ∈ q2 → _ := fun b off hm => hr2 b off (by rw [e2]; exact List.mem_cons_of_mem _ (List.mem_cons_of_mem _ hm))
  obtain ⟨a4, q3, hl, e3, v4, b4⟩ := sent_step hl gn4 gt4 Tryd.underlying61 rowE Tryd.underlying109 Tryd.underlying134 rfl rfl Tryd.underlying9 cellsES cellsSt (fun b off hm => hr3 b off hm)
  have hr4 : ∀ b off, MemPlace.cell b off ∈ q3 → _ := fun b off hm => hr3 b off (by rw [e3]; exact List.mem_cons_of_mem _ (List.mem_cons_of_mem _ hm))
  obtain ⟨a2, q4, hl, e4, v2, b2⟩ := sent_step hl gn2 gt2 Tryd.underlying61 rowE Tryd.underlying109 Tryd.underlying134 rfl rfl Tryd.underlying9 cellsES cellsSt (fun b off hm => hr4 b off hm)
  have hr5 : ∀ b off, MemPlace.cell b off ∈ q4 → _ := fun b off hm => hr4 b off (by rw [e4]; exact List.mem_cons_of_mem _ (List.mem_cons_of_mem _ hm))
  obtain ⟨a5, q5, hl, e5, v5, b5⟩ := sent_step hl gn5 gt5 Tryd.underlying61 rowE Tryd.underlying109 Tryd.underlying134 rfl rfl Tryd.underlying9 cellsES cellsSt (fun b off hm => hr5 b off hm)
  have hr6 : ∀ b off, MemPlace.cell b off ∈ q5 → _ := fun b off hm => hr5 b off (by rw [e5]; exact List.mem_cons_of_mem _ (List.mem_cons_of_mem _ hm))
  obtain ⟨a6, q6, hl, e6, v6, b6⟩ := sent_step hl gn6 gt6 Tryd.underlying61 rowE Tryd.underlying109 Tryd.underlying134 rfl rfl Tryd.underlying9 cellsES cellsSt (fun b off hm => hr6 b off hm)
  have hr7 : ∀ b off, MemPlace.cell b off ∈ q6 → _ := fun b off hm => hr6 b off (by rw [e6]; exact List.mem_cons_of_mem _ (List.mem_cons_of_mem _ hm))
  have e7 : q6 = [] := hl
  rw [e0, e1, e2, e3, e4, e5, e6, e7] at hnd
  have hp : ([a0, a1, a3, a4, a2, a5, a6].map fun a => MemPlace.cell a.block a.off).Nodup := List.Pairwise.sublist (by
    simp only [List.map]
    exact (.cons _ (.cons_cons _ (.cons _ (.cons_cons _ (.cons _ (.cons_cons _ (.cons _ (.cons_cons _ (.cons _ (.cons_cons _ (.cons _ (.cons_cons _ (.cons _ (.cons_cons _ .slnil))))))))))))))) hnd
  have hq := List.pairwise_map.1 hp
  obtain ⟨F, hF⟩ : ∃ F : Nat → Addr, F = fun g => ([a0, a1, a3, a4, a2, a5, a6][g]?).getD a0 := ⟨_, rfl⟩
  have fa : ∀ i (hi : i < 7), F i = [a0, a1, a3, a4, a2, a5, a6][i]'(by simpa using hi) := fun i hi => by
    rw [hF]
    rcases seven_g hi with rfl | rfl | rfl | rfl | rfl | rfl | rfl <;> rfl
  have lt : ∀ i j, i < 7 → j < 7 → i < j → F i ≠ F j := fun i j hi hj hij e => by
    refine List.pairwise_iff_getElem.1 hq i j (by simpa using hi) (by simpa using hj) hij ?_
    rw [← fa i hi, ← fa j hj, e]
  obtain ⟨f, hf⟩ : ∃ f : Nat → Addr, f = fun g => F (posE g) := ⟨_, rfl⟩
  have f0 : f 0 = a0 := by rw [hf, hF]; rfl
  have f1 : f 1 = a1 := by rw [hf, hF]; rfl
  have f2 : f 2 = a2 := by rw [hf, hF]; rfl
  have f3 : f 3 = a3 := by rw [hf, hF]; rfl
  have f4 : f 4 = a4 := by rw [hf, hF]; rfl
  have f5 : f 5 = a5 := by rw [hf, hF]; rfl
  have f6 : f 6 = a6 := by rw [hf, hF]; rfl
  have ff : ∀ g, f g = F (posE g) := fun g => by rw [hf]
  have V : Vars7 W f := ⟨by rw [f0]; exact v0, by rw [f1]; exact v1, by rw [f2]; exact v2, by rw [f3]; exact v3, by rw [f4]; exact v4, by rw [f5]; exact v5, by rw [f6]; exact v6⟩
  have C : ∀ g, g < 7 → W.cell? ⟨g, 0, none⟩ = some (.iface 109 (.pointer (some (f g)))) := fun g hg => by
    rcases seven_g hg with rfl | rfl | rfl | rfl | rfl | rfl | rfl
    · simpa using World.var?_cell gn0 V.v0 0
    · simpa using World.var?_cell gn1 V.v1 0
    · simpa using World.var?_cell gn2 V.v2 0
    · simpa using World.var?_cell gn3 V.v3 0
    · simpa using World.var?_cell gn4 V.v4 0
    · simpa using World.var?_cell gn5 V.v5 0
    · simpa using World.var?_cell gn6 V.v6 0
  refine ⟨f, ⟨C, fun g hg => ?_, fun g h hg hh hne => ?_, fun g hg => ?_⟩, V⟩
  · rcases seven_g hg with rfl | rfl | rfl | rfl | rfl | rfl | rfl
    · rw [f0]; exact b0
    · rw [f1]; exact b1
    · rw [f2]; exact b2
    · rw [f3]; exact b3
    · rw [f4]; exact b4
    · rw [f5]; exact b5
    · rw [f6]; exact b6
  · have hpg := posE_lt g hg
    have hph := posE_lt h hh
    rw [ff g, ff h]
    rcases Nat.lt_or_gt_of_ne (posE_ne g hg h hh hne) with h1 | h1
    · exact lt _ _ hpg hph h1
    · exact fun e => lt _ _ hph hpg h1 e.symm
  · rcases Nat.lt_or_ge g W.heap.size with h' | h'
    · exact h'
    · have := C g hg
      simp [World.cell?, Array.getElem?_eq_none h'] at this
end Go.Proofs.YtkfjommoogmehaaDoor.OpR
