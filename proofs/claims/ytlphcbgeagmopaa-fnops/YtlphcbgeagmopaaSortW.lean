/- Proves what impl's generic functions make of ops: two rows in order brought together, and a row in order. -/
import Derived.Test.YtlphcbgeagmopaaSortM
import Derived.Test.YtlphcbgeagmopaaIOp
import Derived.Test.YtlphcbgeagmopaaRowO
namespace Go.Proofs.Ytlphcbgeagmopaa.OpR
open Go.ChangeShapes Go.WideShapes Go.ChangeAt Go.RowKit
set_option linter.unusedVariables false

theorem make_cap (n : Nat) (N : Int) (hN : N = (n : Int)) (hn : n ≤ 1048576) (w : World) : (Instr.makeSlice 23 (.int .i64 0) (.int .i64 N)).run Try.prog w = .ok (.slice (some ⟨w.heap.size, 0, none⟩) 0 n) (w.alloc (.cells (opsArr (List.replicate n OpV.zero)) 40)) := by
  subst hN
  obtain ⟨i, hi, hz⟩ := Option.map_eq_some_iff.1 infoOp
  simp only [Prod.mk.injEq] at hz
  obtain ⟨hz, hs, hb⟩ := hz
  have h := run_make (P := Try.prog) w 23 40 i _ Try.underlying23 hi hz .i64 .i64 0 n (by omega) (by omega) (by rw [hb]; omega) (by omega)
  simp only [Int.toNat_natCast, hs] at h
  rw [← made_ops n]
  exact h
def aheadFn : Value := .func (.func 48) #[] #[]

theorem op_news (x : World) (o : OpV) (T : TypeId) : ∀ j u, o.cells[j]? = some u → (x.alloc (.cells #[.int .i64 o.time, .int .i64 o.repl, .int .i64 o.kind, .int .i64 o.node, .int .i64 o.parent, .string o.name, .string o.value] T)).drew.cell? ((⟨x.heap.size, 0, none⟩ : Addr).add j) = some u := by
  intro j u hu
  rw [Addr.add_lit, Nat.zero_add]
  show (x.alloc (.cells #[.int .i64 o.time, .int .i64 o.repl, .int .i64 o.kind, .int .i64 o.node, .int .i64 o.parent, .string o.name, .string o.value] T)).cell? ⟨x.heap.size, j, none⟩ = some u
  rw [World.cell?_alloc_at _ _ _ _ rfl]
  simpa [OpV.cells] using hu
def sliceLen : Value → Nat
  | .slice _ n _ => n
  | _ => 0
set_option maxRecDepth 100000 in
set_option maxHeartbeats 1000000 in
theorem merged_any (a b : List OpV) (ao bo : Option Addr) (ca cb : Nat) (w : World) (ha : a.length ≤ 400) (hb : b.length ≤ 400) (hca : a.length ≤ ca) (hcb : b.length ≤ cb) (hA : OpsAt w ao a) (hB : OpsAt w bo b) :
    Calls Try.prog 46 #[.slice ao a.length ca, .slice bo b.length cb, aheadFn] w fun e w' => ∃ v, e = .returned v ∧ OwnAt w' w.heap.size 40 v (mrg a b) ∧ Below w.heap.size w w' := by
  unfold aheadFn
  have hmk := fun W => make_cap (a.length + b.length) ((a.length : Int) + (b.length : Int)) (by omega) (by omega) W
  have HA : Hid (OpsAt w ao a) := ⟨hA⟩
  have HB : Hid (OpsAt w bo b) := ⟨hB⟩
  clear hA hB
  have HCa : Hid (a.length ≤ ca) := ⟨hca⟩
  have HCb : Hid (b.length ≤ cb) := ⟨hcb⟩
  clear hca hcb
  have hown0 := World.ownsRow_made (base := w.heap.size) (e := 40) (size := 7) w (opsArr (List.replicate (a.length + b.length) OpV.zero)) (a.length + b.length) (Nat.le_refl _) (by unfold maxLen; omega) (by rw [opsArr_size, List.length_replicate])
  have HO0 : Hid (OwnAt (w.alloc (.cells (opsArr (List.replicate (a.length + b.length) OpV.zero)) 40)) w.heap.size 40 (.slice (some ⟨w.heap.size, 0, none⟩) 0 (a.length + b.length)) []) := ⟨hown0, by simp⟩
  clear hown0
  obtain ⟨i0, hi, hzz⟩ := Option.map_eq_some_iff.1 infoOp
  simp only [Prod.mk.injEq] at hzz
  obtain ⟨hz0, hz1, hz2⟩ := hzz
  go_enter Try.func46, Try.ntmps46
  go_wp2
  clear hmk
  go_loopw [0, 1, 7] (fun va vb vo wr => ∃ p q out pao qbo pc qc, va = .slice pao (List.length p) pc ∧ vb = .slice qbo (List.length q) qc ∧ List.length p ≤ pc ∧ List.length q ≤ qc ∧ OpsAt w pao p ∧ OpsAt w qbo q ∧ OwnAt wr w.heap.size 40 vo out ∧ out ++ mrg p q = mrg a b ∧ List.length out + p.length + q.length = a.length + b.length ∧ Below w.heap.size w wr) (fun va vb _ _ => sliceLen va + sliceLen vb)
  case atStart => exact ⟨a, b, [], ao, bo, ca, cb, rfl, rfl, HCa.out, HCb.out, HA.out, HB.out, HO0.out, rfl, by simp, (Below.refl _ _).alloc (Nat.le_refl _) _⟩
  case round =>
    obtain ⟨p, q, out, pao, qbo, pc, qc, rfl, rfl, hpc, hqc, hP, hQ, hO, hM, hlen, hbw⟩ := hrel
    have HP : Hid (OpsAt w pao p) := ⟨hP⟩
    have HQ : Hid (OpsAt w qbo q) := ⟨hQ⟩
    have HO : Hid (OwnAt wr w.heap.size 40 u7 out) := ⟨hO⟩
    have HM : Hid (out ++ mrg p q = mrg a b) := ⟨hM⟩
    clear hP hQ hO hM
    by_cases hp : 0 < p.length
    · by_cases hq : 0 < q.length
      · obtain ⟨x, p, rfl⟩ : ∃ x p', p = x :: p' := by cases p with | nil => simp at hp | cons x p' => exact ⟨x, p', rfl⟩
        obtain ⟨y, q, rfl⟩ : ∃ y q', q = y :: q' := by cases q with | nil => simp at hq | cons y q' => exact ⟨y, q', rfl⟩
        obtain ⟨g1, o1, rfl, hlt1, ho1⟩ := HP.out 0 (by simp)
        obtain ⟨g2, o2, rfl, hlt2, ho2⟩ := HQ.out 0 (by simp)
        have hx0 : OpAt w g1 o1 x := by simpa using ho1
        have hy0 : OpAt w g2 o2 y := by simpa using ho2
        have HX : Hid (OpAt w g1 o1 x) := ⟨hx0⟩
        have HY : Hid (OpAt w g2 o2 y) := ⟨hy0⟩
        obtain ⟨c0, c1, c2, c3, c4, c5, c6⟩ := hx0.block (hbw.block g1 hlt1)
        obtain ⟨d0, d1, d2, d3, d4, d5, d6⟩ := hy0.block (hbw.block g2 hlt2)
        have hcall := fun W => iAhead_any y x W
        unfold OpV.agg at hcall
        simp only [List.length_cons] at hlen hpc hqc hp hq ⊢
        clear hx0 hy0 ho1 ho2
        obtain ⟨g, cap, rfl, hg1, hg2, hcap, hcm, hat⟩ := HO.out.at
        clear hat
        go_wp2
        go_region_held3 (fun w' => w'.cell? ⟨g1, o1, none⟩ = some (.int .i64 x.time) ∧ w'.cell? ⟨g1, o1 + 1, none⟩ = some (.int .i64 x.repl) ∧ w'.cell? ⟨g1, o1 + 2, none⟩ = some (.int .i64 x.kind) ∧ w'.cell? ⟨g1, o1 + 3, none⟩ = some (.int .i64 x.node) ∧ w'.cell? ⟨g1, o1 + 4, none⟩ = some (.int .i64 x.parent) ∧ w'.cell? ⟨g1, o1 + 5, none⟩ = some (.string x.name) ∧ w'.cell? ⟨g1, o1 + 6, none⟩ = some (.string x.value) ∧ w'.cell? ⟨g2, o2, none⟩ = some (.int .i64 y.time) ∧ w'.cell? ⟨g2, o2 + 1, none⟩ = some (.int .i64 y.repl) ∧ w'.cell? ⟨g2, o2 + 2, none⟩ = some (.int .i64 y.kind) ∧ w'.cell? ⟨g2, o2 + 3, none⟩ = some (.int .i64 y.node) ∧ w'.cell? ⟨g2, o2 + 4, none⟩ = some (.int .i64 y.parent) ∧ w'.cell? ⟨g2, o2 + 5, none⟩ = some (.string y.name) ∧ w'.cell? ⟨g2, o2 + 6, none⟩ = some (.string y.value)) (exact ⟨c0, c1, c2, c3, c4, c5, c6, d0, d1, d2, d3, d4, d5, d6⟩) (first | (go_at_call 48; refine (hcall _).mono ?_; rintro e x1 ⟨rfl, hx1⟩; have hX : Below w.heap.size w x1 := hbw.drew.trans (hx1.mono hbw.size); obtain ⟨c0, c1, c2, c3, c4, c5, c6⟩ := HX.out.block (hX.block g1 hlt1); obtain ⟨d0, d1, d2, d3, d4, d5, d6⟩ := HY.out.block (hX.block g2 hlt2)))
        clear hcall c0 c1 c2 c3 c4 c5 c6 d0 d1 d2 d3 d4 d5 d6
        have HO1 : Hid (OwnAt x1 w.heap.size 40 (.slice (some ⟨g, 0, none⟩) out.length cap) out) := ⟨HO.out.below ((Below.refl _ _).drew.trans (hx1.mono (by simp)))⟩
        cases ha : ahead y x
        · go_wp2
          have hsl := fun W => slice_from W g1 o1 (p.length + 1) pc 1 1 rfl (by omega)
          have hXs := hX.size
          go_region_held3 (fun w' => w'.cell? ⟨g1, o1, none⟩ = some (.int .i64 x.time) ∧ w'.cell? ⟨g1, o1 + 1, none⟩ = some (.int .i64 x.repl) ∧ w'.cell? ⟨g1, o1 + 2, none⟩ = some (.int .i64 x.kind) ∧ w'.cell? ⟨g1, o1 + 3, none⟩ = some (.int .i64 x.node) ∧ w'.cell? ⟨g1, o1 + 4, none⟩ = some (.int .i64 x.parent) ∧ w'.cell? ⟨g1, o1 + 5, none⟩ = some (.string x.name) ∧ w'.cell? ⟨g1, o1 + 6, none⟩ = some (.string x.value)) (first | exact HX.out.block (hX.drew.block g1 hlt1) | exact HX.out.block ((hX.alloc hXs _).drew.block g1 hlt1) | exact HX.out.block (hYY.block g1 hlt1)) ((refine step_append_lies _ (by rfl) _ _ _ (by rfl) w.heap.size 40 i0 _ 7 72 Try.underlying23 hi hz0 hz1 hz2 rfl (by decide) _ out.length (flat out) (by rfl) (HO1.out.1.alloc _).drewn ⟨x1.heap.size, 0, none⟩ 1 1 x.cells (by rfl) rfl (op_news x1 _ _) (op_one _) (by omega) (by unfold maxLen; omega) (by omega) (by simp; omega) (x1.heap.size + 1) (by simp) ?_; intro gn cn y1 hown hgrow hatn hltn; have hYY : Below w.heap.size w y1 := (hX.alloc hXs _).drew.grown hgrow (by simp; omega) (fun j hj => by simp [Value.ownBlock] at hj; omega)))
          have HO2 : Hid (OwnAt y1 w.heap.size 40 (.slice (some ⟨gn, 0, none⟩) (out.length + 1) cn) (out ++ [x])) := ⟨by
            have e1 : (out ++ [x]).length = out.length + 1 := by simp
            have e2 : flat (out ++ [x]) = flat out ++ x.cells := by rw [flat_app]; simp [flat]
            rw [e1, e2]; exact hown, by simp⟩
          have HP2 : Hid (OpsAt w (some ⟨g1, fromOff o1 pc 1, none⟩) p) := ⟨by have h2 := HP.out.from (cap := pc) 1 (by simp; omega); simpa using h2⟩
          have HM2 : Hid ((out ++ [x]) ++ mrg p (y :: q) = mrg a b) := ⟨by rw [← HM.out, mrg_left p q ha]; simp⟩
          clear hown hgrow hatn
          go_wp2
          go_roundw
          case rel => exact ⟨p, y :: q, out ++ [x], _, _, pc - 1, qc, rfl, rfl, by omega, by simp; omega, HP2.out, HQ.out, HO2.out, HM2.out, by simp; omega, hYY⟩
          case measure => simp [sliceLen]
        · go_wp2
          have hsl := fun W => slice_from W g2 o2 (q.length + 1) qc 1 1 rfl (by omega)
          have hXs := hX.size
          go_region_held3 (fun w' => w'.cell? ⟨g2, o2, none⟩ = some (.int .i64 y.time) ∧ w'.cell? ⟨g2, o2 + 1, none⟩ = some (.int .i64 y.repl) ∧ w'.cell? ⟨g2, o2 + 2, none⟩ = some (.int .i64 y.kind) ∧ w'.cell? ⟨g2, o2 + 3, none⟩ = some (.int .i64 y.node) ∧ w'.cell? ⟨g2, o2 + 4, none⟩ = some (.int .i64 y.parent) ∧ w'.cell? ⟨g2, o2 + 5, none⟩ = some (.string y.name) ∧ w'.cell? ⟨g2, o2 + 6, none⟩ = some (.string y.value)) (first | exact HY.out.block (hX.drew.block g2 hlt2) | exact HY.out.block ((hX.alloc hXs _).drew.block g2 hlt2) | exact HY.out.block (hYY.block g2 hlt2)) ((refine step_append_lies _ (by rfl) _ _ _ (by rfl) w.heap.size 40 i0 _ 7 72 Try.underlying23 hi hz0 hz1 hz2 rfl (by decide) _ out.length (flat out) (by rfl) (HO1.out.1.alloc _).drewn ⟨x1.heap.size, 0, none⟩ 1 1 y.cells (by rfl) rfl (op_news x1 _ _) (op_one _) (by omega) (by unfold maxLen; omega) (by omega) (by simp; omega) (x1.heap.size + 1) (by simp) ?_; intro gn cn y1 hown hgrow hatn hltn; have hYY : Below w.heap.size w y1 := (hX.alloc hXs _).drew.grown hgrow (by simp; omega) (fun j hj => by simp [Value.ownBlock] at hj; omega)))
          have HO2 : Hid (OwnAt y1 w.heap.size 40 (.slice (some ⟨gn, 0, none⟩) (out.length + 1) cn) (out ++ [y])) := ⟨by
            have e1 : (out ++ [y]).length = out.length + 1 := by simp
            have e2 : flat (out ++ [y]) = flat out ++ y.cells := by rw [flat_app]; simp [flat]
            rw [e1, e2]; exact hown, by simp⟩
          have HQ2 : Hid (OpsAt w (some ⟨g2, fromOff o2 qc 1, none⟩) q) := ⟨by have h2 := HQ.out.from (cap := qc) 1 (by simp; omega); simpa using h2⟩
          have HM2 : Hid ((out ++ [y]) ++ mrg (x :: p) q = mrg a b) := ⟨by rw [← HM.out, mrg_right p q ha]; simp⟩
          clear hown hgrow hatn
          go_wp2
          go_roundw
          case rel => exact ⟨x :: p, q, out ++ [y], _, _, pc, qc - 1, rfl, rfl, by simp; omega, by omega, HP.out, HQ2.out, HO2.out, HM2.out, by simp; omega, hYY⟩
          case measure => simp [sliceLen]
      · obtain ⟨g, cap, rfl, hg1, hg2, hcap, hcm, hat⟩ := HO.out.at
        clear hat
        have HE : Hid ((out ++ p) ++ q = mrg a b) := ⟨by rw [← HM.out, show q = [] from List.eq_nil_of_length_eq_zero (by omega), mrg_nil_right]; simp⟩
        have hbs := hbw.size
        go_wp2_with (at_builtin; refine wpList_append_ops rfl _ _ rfl w.heap.size _ out rfl HO.out.1 pao p pc rfl (HP.out.stays hbw) (by omega) hbs ?_)
        intro v1 w1 hown1 hgr1 hne1
        have hB1 : Below w.heap.size w w1 := hbw.grown hgr1 hbs (fun j hj => (HO.out.1.lt j hj).1)
        have HO1 : Hid (OwnAt w1 w.heap.size 40 v1 (out ++ p)) := ⟨by rw [List.length_append]; exact hown1, hne1⟩
        have hB1s := hB1.size
        clear hown1 hgr1 hne1
        go_wp2_with (at_builtin; refine wpList_append_ops rfl _ _ rfl w.heap.size _ (out ++ p) rfl HO1.out.1 qbo q qc rfl (HQ.out.stays hB1) (by simp; omega) hB1s ?_)
        intro v2 w2 hown2 hgr2 hne2
        have hB2 : Below w.heap.size w w2 := hB1.grown hgr2 hB1s (fun j hj => (HO1.out.1.lt j hj).1)
        have HF : Hid (OwnAt w2 w.heap.size 40 v2 (mrg a b)) := ⟨by rw [← HE.out]; simpa using hown2, fun hh => HO1.out.2 (by have := hne2.1 hh; first | exact this | exact this.1)⟩
        clear hown2 hgr2 hne2
        go_wp2
        go_ret
        exact ⟨v2, rfl, HF.out, hB2⟩
    · obtain ⟨g, cap, rfl, hg1, hg2, hcap, hcm, hat⟩ := HO.out.at
      clear hat
      have HE : Hid ((out ++ p) ++ q = mrg a b) := ⟨by rw [← HM.out, show p = [] from List.eq_nil_of_length_eq_zero (by omega), mrg_nil_left]; simp⟩
      have hbs := hbw.size
      go_wp2_with (at_builtin; refine wpList_append_ops rfl _ _ rfl w.heap.size _ out rfl HO.out.1 pao p pc rfl (HP.out.stays hbw) (by omega) hbs ?_)
      intro v1 w1 hown1 hgr1 hne1
      have hB1 : Below w.heap.size w w1 := hbw.grown hgr1 hbs (fun j hj => (HO.out.1.lt j hj).1)
      have HO1 : Hid (OwnAt w1 w.heap.size 40 v1 (out ++ p)) := ⟨by rw [List.length_append]; exact hown1, hne1⟩
      have hB1s := hB1.size
      clear hown1 hgr1 hne1
      go_wp2_with (at_builtin; refine wpList_append_ops rfl _ _ rfl w.heap.size _ (out ++ p) rfl HO1.out.1 qbo q qc rfl (HQ.out.stays hB1) (by simp; omega) hB1s ?_)
      intro v2 w2 hown2 hgr2 hne2
      have hB2 : Below w.heap.size w w2 := hB1.grown hgr2 hB1s (fun j hj => (HO1.out.1.lt j hj).1)
      have HF : Hid (OwnAt w2 w.heap.size 40 v2 (mrg a b)) := ⟨by rw [← HE.out]; simpa using hown2, fun hh => HO1.out.2 (by have := hne2.1 hh; first | exact this | exact this.1)⟩
      clear hown2 hgr2 hne2
      go_wp2
      go_ret
      exact ⟨v2, rfl, HF.out, hB2⟩
end Go.Proofs.Ytlphcbgeagmopaa.OpR
