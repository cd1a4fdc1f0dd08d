/- Proves what impl.merged makes of two rows of nodes by the order of Children: one row, in memory of its own. -/
import Derived.Test.YtmidembbanlleafDoorMrgN
import Derived.Test.YtmidembbanlleafDoorTrP
namespace Go.Proofs.YtmidembbanlleafDoor.OpR
open Go.ChangeShapes Go.WideShapes Go.ChangeAt Go.RowKit
set_option linter.unusedVariables false

def ltC (a b : NodG) : Bool := keyLt a.name b.name || (decide (a.name = b.name) && decide (a.id < b.id))
def leC (a b : NodG) : Bool := !ltC b a
def mrgC (a b : List NodG) : List NodG := List.merge a b leC
theorem mrgC_nil_left (b : List NodG) : mrgC [] b = b := by simp [mrgC]
theorem mrgC_nil_right (a : List NodG) : mrgC a [] = a := by simp [mrgC]
theorem mrgC_right {x y : NodG} (a b : List NodG) (h : ltC y x = true) : mrgC (x :: a) (y :: b) = y :: mrgC (x :: a) b := by
  unfold mrgC; rw [List.cons_merge_cons]; simp [leC, h]
theorem mrgC_left {x y : NodG} (a b : List NodG) (h : ltC y x = false) : mrgC (x :: a) (y :: b) = x :: mrgC a (y :: b) := by
  unfold mrgC; rw [List.cons_merge_cons]; simp [leC, h]
theorem mrgC_perm (a b : List NodG) : (mrgC a b).Perm (a ++ b) := List.merge_perm_append leC
theorem mrgC_len (a b : List NodG) : (mrgC a b).length = a.length + b.length := by rw [(mrgC_perm a b).length_eq, List.length_append]
def aheadFnC : Value := .func (.func 57) #[] #[]
set_option maxRecDepth 100000 in
set_option maxHeartbeats 400000 in
theorem childAhead_any (a b : NodG) (w : World) :
    Calls Tryd.prog 57 #[a.agg, b.agg] w fun e w' => e = .returned (.bool (ltC a b)) ∧ Below w.heap.size w w' := by
  unfold NodG.agg
  cases h1 : keyLt a.name b.name
  · have h1' : Op.bytesLess a.name.toList b.name.toList = false := h1
    by_cases h2 : a.name = b.name
    · have b0 : (a.name.toList == b.name.toList) = true := by rw [h2]; exact beq_self_eq_true _
      have HF : Hid (ltC a b = decide (a.id < b.id)) := ⟨by simp [ltC, h2, kl_irrefl]⟩
      clear h1 h2
      go_enter Tryd.func57, Tryd.ntmps57
      go_wp2
      go_ret
      exact ⟨by rw [HF.out]; rfl, ((Below.refl _ _).alloc (Nat.le_refl _) _).alloc (by simp) _⟩
    · have b0 : (a.name.toList == b.name.toList) = false := beq_eq_false_iff_ne.2 fun e => h2 (toList_inj e)
      have HF : Hid (ltC a b = false) := ⟨by simp [ltC, h1, h2]⟩
      clear h1 h2
      go_enter Tryd.func57, Tryd.ntmps57
      go_wp2
      go_ret
      exact ⟨by rw [HF.out]; rfl, ((Below.refl _ _).alloc (Nat.le_refl _) _).alloc (by simp) _⟩
  · have h1' : Op.bytesLess a.name.toList b.name.toList = true := h1
    have HF : Hid (ltC a b = true) := ⟨by simp [ltC, h1]⟩
    clear h1
    go_enter Tryd.func57, Tryd.ntmps57
    go_wp2
    go_ret
    exact ⟨by rw [HF.out]; rfl, ((Below.refl _ _).alloc (Nat.le_refl _) _).alloc (by simp) _⟩
def sliceLenC : Value → Nat
  | .slice _ n _ => n
  | _ => 0
set_option maxRecDepth 100000 in
set_option maxHeartbeats 1000000 in
theorem mergedC_any (a b : List NodG) (ao bo : Option Addr) (ca cb : Nat) (w : World) (ha : a.length ≤ 400) (hb : b.length ≤ 400) (hca : a.length ≤ ca) (hcb : b.length ≤ cb) (hA : NCells w ao a) (hB : NCells w bo b) :
    Calls Tryd.prog 63 #[.slice ao a.length ca, .slice bo b.length cb, aheadFnC] w fun e w' => ∃ v, e = .returned v ∧ OwnN w' w.heap.size v (mrgC a b) ∧ Below w.heap.size w w' := by
  unfold aheadFnC
  have hmk := fun W => make_capN (a.length + b.length) ((a.length : Int) + (b.length : Int)) (by omega) (by omega) W
  have HA : Hid (NCells w ao a) := ⟨hA⟩
  have HB : Hid (NCells w bo b) := ⟨hB⟩
  clear hA hB
  have HCa : Hid (a.length ≤ ca) := ⟨hca⟩
  have HCb : Hid (b.length ≤ cb) := ⟨hcb⟩
  clear hca hcb
  have hown0 := World.ownsRow_made (base := w.heap.size) (e := 53) (size := 4) w (flatG NodG.cells (List.replicate (a.length + b.length) NodG.none0)).toArray (a.length + b.length) (Nat.le_refl _) (by unfold maxLen; omega) (by simp [flatG_len nod_len])
  have HO0 : Hid (OwnN (w.alloc (.cells (flatG NodG.cells (List.replicate (a.length + b.length) NodG.none0)).toArray 53)) w.heap.size (.slice (some ⟨w.heap.size, 0, none⟩) 0 (a.length + b.length)) []) := ⟨hown0, by simp⟩
  clear hown0
  obtain ⟨i0, hi, hzz⟩ := Option.map_eq_some_iff.1 infoNode
  simp only [Prod.mk.injEq] at hzz
  obtain ⟨hz0, hz1, hz2⟩ := hzz
  go_enter Tryd.func63, Tryd.ntmps63
  go_wp2
  clear hmk
  go_loopw [0, 1, 7] (fun va vb vo wr => ∃ p q out pao qbo pc qc, va = .slice pao (List.length p) pc ∧ vb = .slice qbo (List.length q) qc ∧ List.length p ≤ pc ∧ List.length q ≤ qc ∧ NCells w pao p ∧ NCells w qbo q ∧ OwnN wr w.heap.size vo out ∧ out ++ mrgC p q = mrgC a b ∧ List.length out + p.length + q.length = a.length + b.length ∧ Below w.heap.size w wr) (fun va vb _ _ => sliceLenC va + sliceLenC vb)
  case atStart => exact ⟨a, b, [], ao, bo, ca, cb, rfl, rfl, HCa.out, HCb.out, HA.out, HB.out, HO0.out, rfl, by simp, (Below.refl _ _).alloc (Nat.le_refl _) _⟩
  case round =>
    obtain ⟨p, q, out, pao, qbo, pc, qc, rfl, rfl, hpc, hqc, hP, hQ, hO, hM, hlen, hbw⟩ := hrel
    have HP : Hid (NCells w pao p) := ⟨hP⟩
    have HQ : Hid (NCells w qbo q) := ⟨hQ⟩
    have HO : Hid (OwnN wr w.heap.size u7 out) := ⟨hO⟩
    have HM : Hid (out ++ mrgC p q = mrgC a b) := ⟨hM⟩
    clear hP hQ hO hM
    by_cases hp : 0 < p.length
    · by_cases hq : 0 < q.length
      · obtain ⟨x, p, rfl⟩ : ∃ x p', p = x :: p' := by cases p with | nil => simp at hp | cons x p' => exact ⟨x, p', rfl⟩
        obtain ⟨y, q, rfl⟩ : ∃ y q', q = y :: q' := by cases q with | nil => simp at hq | cons y q' => exact ⟨y, q', rfl⟩
        obtain ⟨g1, o1, rfl, hlt1, ho1⟩ := HP.out 0 (by simp)
        obtain ⟨g2, o2, rfl, hlt2, ho2⟩ := HQ.out 0 (by simp)
        have hx0 : NodAt w g1 o1 x := by simpa using ho1
        have hy0 : NodAt w g2 o2 y := by simpa using ho2
        have HX : Hid (NodAt w g1 o1 x) := ⟨hx0⟩
        have HY : Hid (NodAt w g2 o2 y) := ⟨hy0⟩
        obtain ⟨c0, c1, c2, c3⟩ := hx0.block (hbw.block g1 hlt1)
        obtain ⟨d0, d1, d2, d3⟩ := hy0.block (hbw.block g2 hlt2)
        have hcall := fun W => childAhead_any y x W
        unfold NodG.agg at hcall
        simp only [List.length_cons] at hlen hpc hqc hp hq ⊢
        clear hx0 hy0 ho1 ho2
        obtain ⟨g, cap, rfl, hg1, hg2, hcap, hcm⟩ := HO.out.at
        go_wp2
        go_region_held3 (fun w' => w'.cell? ⟨g1, o1, none⟩ = some (.int .i64 x.id) ∧ w'.cell? ⟨g1, o1 + 1, none⟩ = some (.int .i64 x.parent) ∧ w'.cell? ⟨g1, o1 + 2, none⟩ = some (.string x.name) ∧ w'.cell? ⟨g1, o1 + 3, none⟩ = some (.slice x.pao x.props.length x.pcap) ∧ w'.cell? ⟨g2, o2, none⟩ = some (.int .i64 y.id) ∧ w'.cell? ⟨g2, o2 + 1, none⟩ = some (.int .i64 y.parent) ∧ w'.cell? ⟨g2, o2 + 2, none⟩ = some (.string y.name) ∧ w'.cell? ⟨g2, o2 + 3, none⟩ = some (.slice y.pao y.props.length y.pcap)) (exact ⟨c0, c1, c2, c3, d0, d1, d2, d3⟩) (first | (go_at_call 57; refine (hcall _).mono ?_; rintro e x1 ⟨rfl, hx1⟩; have hX : Below w.heap.size w x1 := hbw.drew.trans (hx1.mono hbw.size); obtain ⟨c0, c1, c2, c3⟩ := HX.out.block (hX.block g1 hlt1); obtain ⟨d0, d1, d2, d3⟩ := HY.out.block (hX.block g2 hlt2)))
        clear hcall c0 c1 c2 c3 d0 d1 d2 d3
        have HO1 : Hid (OwnN x1 w.heap.size (.slice (some ⟨g, 0, none⟩) out.length cap) out) := ⟨HO.out.below ((Below.refl _ _).drew.trans (hx1.mono (by simp)))⟩
        cases ha : ltC y x
        · go_wp2
          have hsl := fun W => slice_fromN W g1 o1 (p.length + 1) pc 1 1 rfl (by omega)
          have hXs := hX.size
          go_region_held3 (fun w' => w'.cell? ⟨g1, o1, none⟩ = some (.int .i64 x.id) ∧ w'.cell? ⟨g1, o1 + 1, none⟩ = some (.int .i64 x.parent) ∧ w'.cell? ⟨g1, o1 + 2, none⟩ = some (.string x.name) ∧ w'.cell? ⟨g1, o1 + 3, none⟩ = some (.slice x.pao x.props.length x.pcap)) (first | exact HX.out.block (hX.drew.block g1 hlt1) | exact HX.out.block ((hX.alloc hXs _).drew.block g1 hlt1) | exact HX.out.block (hYY.block g1 hlt1)) ((refine step_append_lies _ (by rfl) _ _ _ (by rfl) w.heap.size 53 i0 _ 4 56 Tryd.underlying27 hi hz0 hz1 hz2 rfl (by decide) _ out.length (flatG NodG.cells out) (by rfl) (HO1.out.1.alloc _).drewn ⟨x1.heap.size, 0, none⟩ 1 1 x.cells (by rfl) rfl (news1N x1 _ _) (one1N _) (by omega) (by unfold maxLen; omega) (by omega) (by simp; omega) (x1.heap.size + 1) (by simp) ?_; intro gn cn y1 hown hgrow hatn hltn; have hYY : Below w.heap.size w y1 := (hX.alloc hXs _).drew.grown hgrow (by simp; omega) (fun j hj => by simp [Value.ownBlock] at hj; omega)))
          have HO2 : Hid (OwnN y1 w.heap.size (.slice (some ⟨gn, 0, none⟩) (out.length + 1) cn) (out ++ [x])) := ⟨by
            have e1 : (out ++ [x]).length = out.length + 1 := by simp
            have e2 : flatG NodG.cells (out ++ [x]) = flatG NodG.cells out ++ x.cells := by rw [flatG_app]; simp [flatG]
            rw [e1, e2]; exact hown, by simp⟩
          have HP2 : Hid (NCells w (some ⟨g1, fromN o1 pc 1, none⟩) p) := ⟨by have h2 := HP.out.from (cap := pc) 1 (by simp; omega); simpa using h2⟩
          have HM2 : Hid ((out ++ [x]) ++ mrgC p (y :: q) = mrgC a b) := ⟨by rw [← HM.out, mrgC_left p q ha]; simp⟩
          clear hown hgrow hatn
          go_wp2
          go_roundw
          case rel => exact ⟨p, y :: q, out ++ [x], _, _, pc - 1, qc, rfl, rfl, by omega, by simp; omega, HP2.out, HQ.out, HO2.out, HM2.out, by simp; omega, hYY⟩
          case measure => simp [sliceLenC]
        · go_wp2
          have hsl := fun W => slice_fromN W g2 o2 (q.length + 1) qc 1 1 rfl (by omega)
          have hXs := hX.size
          go_region_held3 (fun w' => w'.cell? ⟨g2, o2, none⟩ = some (.int .i64 y.id) ∧ w'.cell? ⟨g2, o2 + 1, none⟩ = some (.int .i64 y.parent) ∧ w'.cell? ⟨g2, o2 + 2, none⟩ = some (.string y.name) ∧ w'.cell? ⟨g2, o2 + 3, none⟩ = some (.slice y.pao y.props.length y.pcap)) (first | exact HY.out.block (hX.drew.block g2 hlt2) | exact HY.out.block ((hX.alloc hXs _).drew.block g2 hlt2) | exact HY.out.block (hYY.block g2 hlt2)) ((refine step_append_lies _ (by rfl) _ _ _ (by rfl) w.heap.size 53 i0 _ 4 56 Tryd.underlying27 hi hz0 hz1 hz2 rfl (by decide) _ out.length (flatG NodG.cells out) (by rfl) (HO1.out.1.alloc _).drewn ⟨x1.heap.size, 0, none⟩ 1 1 y.cells (by rfl) rfl (news1N x1 _ _) (one1N _) (by omega) (by unfold maxLen; omega) (by omega) (by simp; omega) (x1.heap.size + 1) (by simp) ?_; intro gn cn y1 hown hgrow hatn hltn; have hYY : Below w.heap.size w y1 := (hX.alloc hXs _).drew.grown hgrow (by simp; omega) (fun j hj => by simp [Value.ownBlock] at hj; omega)))
          have HO2 : Hid (OwnN y1 w.heap.size (.slice (some ⟨gn, 0, none⟩) (out.length + 1) cn) (out ++ [y])) := ⟨by
            have e1 : (out ++ [y]).length = out.length + 1 := by simp
            have e2 : flatG NodG.cells (out ++ [y]) = flatG NodG.cells out ++ y.cells := by rw [flatG_app]; simp [flatG]
            rw [e1, e2]; exact hown, by simp⟩
          have HQ2 : Hid (NCells w (some ⟨g2, fromN o2 qc 1, none⟩) q) := ⟨by have h2 := HQ.out.from (cap := qc) 1 (by simp; omega); simpa using h2⟩
          have HM2 : Hid ((out ++ [y]) ++ mrgC (x :: p) q = mrgC a b) := ⟨by rw [← HM.out, mrgC_right p q ha]; simp⟩
          clear hown hgrow hatn
          go_wp2
          go_roundw
          case rel => exact ⟨x :: p, q, out ++ [y], _, _, pc, qc - 1, rfl, rfl, by simp; omega, by omega, HP.out, HQ2.out, HO2.out, HM2.out, by simp; omega, hYY⟩
          case measure => simp [sliceLenC]
      · obtain ⟨g, cap, rfl, hg1, hg2, hcap, hcm⟩ := HO.out.at
        have HE : Hid ((out ++ p) ++ q = mrgC a b) := ⟨by rw [← HM.out, show q = [] from List.eq_nil_of_length_eq_zero (by omega), mrgC_nil_right]; simp⟩
        have hbs := hbw.size
        go_wp2_with (at_builtin; refine wpList_append_N rfl _ _ rfl w.heap.size _ out rfl HO.out.1 pao p pc rfl (HP.out.stays hbw) (by omega) hbs ?_)
        intro v1 w1 hown1 hgr1 hne1
        have hB1 : Below w.heap.size w w1 := hbw.grown hgr1 hbs (fun j hj => (HO.out.1.lt j hj).1)
        have HO1 : Hid (OwnN w1 w.heap.size v1 (out ++ p)) := ⟨by rw [List.length_append]; exact hown1, hne1⟩
        have hB1s := hB1.size
        clear hown1 hgr1 hne1
        go_wp2_with (at_builtin; refine wpList_append_N rfl _ _ rfl w.heap.size _ (out ++ p) rfl HO1.out.1 qbo q qc rfl (HQ.out.stays hB1) (by simp; omega) hB1s ?_)
        intro v2 w2 hown2 hgr2 hne2
        have hB2 : Below w.heap.size w w2 := hB1.grown hgr2 hB1s (fun j hj => (HO1.out.1.lt j hj).1)
        have HF : Hid (OwnN w2 w.heap.size v2 (mrgC a b)) := ⟨by rw [← HE.out]; simpa using hown2, fun hh => HO1.out.2 (by have := hne2.1 hh; first | exact this | exact this.1)⟩
        clear hown2 hgr2 hne2
        go_wp2
        go_ret
        exact ⟨v2, rfl, HF.out, hB2⟩
    · obtain ⟨g, cap, rfl, hg1, hg2, hcap, hcm⟩ := HO.out.at
      have HE : Hid ((out ++ p) ++ q = mrgC a b) := ⟨by rw [← HM.out, show p = [] from List.eq_nil_of_length_eq_zero (by omega), mrgC_nil_left]; simp⟩
      have hbs := hbw.size
      go_wp2_with (at_builtin; refine wpList_append_N rfl _ _ rfl w.heap.size _ out rfl HO.out.1 pao p pc rfl (HP.out.stays hbw) (by omega) hbs ?_)
      intro v1 w1 hown1 hgr1 hne1
      have hB1 : Below w.heap.size w w1 := hbw.grown hgr1 hbs (fun j hj => (HO.out.1.lt j hj).1)
      have HO1 : Hid (OwnN w1 w.heap.size v1 (out ++ p)) := ⟨by rw [List.length_append]; exact hown1, hne1⟩
      have hB1s := hB1.size
      clear hown1 hgr1 hne1
      go_wp2_with (at_builtin; refine wpList_append_N rfl _ _ rfl w.heap.size _ (out ++ p) rfl HO1.out.1 qbo q qc rfl (HQ.out.stays hB1) (by simp; omega) hB1s ?_)
      intro v2 w2 hown2 hgr2 hne2
      have hB2 : Below w.heap.size w w2 := hB1.grown hgr2 hB1s (fun j hj => (HO1.out.1.lt j hj).1)
      have HF : Hid (OwnN w2 w.heap.size v2 (mrgC a b)) := ⟨by rw [← HE.out]; simpa using hown2, fun hh => HO1.out.2 (by have := hne2.1 hh; first | exact this | exact this.1)⟩
      clear hown2 hgr2 hne2
      go_wp2
      go_ret
      exact ⟨v2, rfl, HF.out, hB2⟩
end Go.Proofs.YtmidembbanlleafDoor.OpR
