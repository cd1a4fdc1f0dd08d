/- Proves what impl.merged makes of two lists of rows: one row, in memory of its own. -/
import Derived.Test.YtmidembbanlleagRwO
import Derived.Test.YtmidembbanlleagRwR
import Derived.Test.YtmidembbanlleagRowO
namespace Go.Proofs.Ytmidembbanlleag.OpR
open Go.ChangeShapes Go.WideShapes Go.ChangeAt Go.RowKit
set_option linter.unusedVariables false

def ltR (a b : PropV) : Bool := keyLt a.key b.key
def leR (a b : PropV) : Bool := !ltR b a
def mrgR (a b : List PropV) : List PropV := List.merge a b leR
theorem mrgR_nil_left (b : List PropV) : mrgR [] b = b := by simp [mrgR]
theorem mrgR_nil_right (a : List PropV) : mrgR a [] = a := by simp [mrgR]
theorem mrgR_right {x y : PropV} (a b : List PropV) (h : ltR y x = true) : mrgR (x :: a) (y :: b) = y :: mrgR (x :: a) b := by
  unfold mrgR; rw [List.cons_merge_cons]; simp [leR, h]
theorem mrgR_left {x y : PropV} (a b : List PropV) (h : ltR y x = false) : mrgR (x :: a) (y :: b) = x :: mrgR a (y :: b) := by
  unfold mrgR; rw [List.cons_merge_cons]; simp [leR, h]
theorem mrgR_perm (a b : List PropV) : (mrgR a b).Perm (a ++ b) := List.merge_perm_append leR
theorem mrgR_len (a b : List PropV) : (mrgR a b).length = a.length + b.length := by rw [(mrgR_perm a b).length_eq, List.length_append]

/-- A row that the call owns, at a place. -/
def OwnR (w : World) (base : Nat) (v : Value) (l : List PropV) : Prop := w.ownsRow base 43 2 v l.length (flatG PropV.cells l) ∧ v ≠ .slice none 0 0
theorem OwnR.at {w : World} {base : Nat} {v : Value} {l : List PropV} (h : OwnR w base v l) : ∃ g cap, v = .slice (some ⟨g, 0, none⟩) l.length cap ∧ base ≤ g ∧ g < w.heap.size ∧ l.length ≤ cap ∧ cap ≤ maxLen := by
  rcases h.1.2 with ⟨e, _⟩ | ⟨g, cap, cur, rfl, hb, hg, hl, hm, hs, ht⟩
  · exact absurd e h.2
  · exact ⟨g, cap, rfl, hb, (Array.getElem?_eq_some_iff.1 hg).1, hl, hm⟩
theorem OwnR.below {w w' : World} {base : Nat} {v : Value} {l : List PropV} (h : OwnR w base v l) (hb : Below w.heap.size w w') : OwnR w' base v l :=
  ⟨h.1.kept (row := none) ⟨hb.os, hb.tape, hb.output, hb.size, fun k hk _ => hb.block k hk⟩ (by cases hv : v.ownBlock <;> simp), h.2⟩
/-- Where a slice from k on begins. -/
def fromR (o cap k : Nat) : Nat := if cap = k then o else o + k * 2
theorem slice_fromR (W : World) (g o len cap k : Nat) (K : Int) (hK : K = (k : Int)) (h : k ≤ len) :
    (Instr.slice 25 (.slice (some ⟨g, o, none⟩) len cap) (some (.int .i64 K)) none none).run Try.prog W = .ok (.slice (some ⟨g, fromR o cap k, none⟩) (len - k) (cap - k)) W := by
  subst hK
  have ht : Try.prog.underlying 25 = some (.slice (Try.prog.elem 25)) := by kernel_rfl
  have hs : ∀ w, (sizeOf (Try.prog.elem 25)).run Try.prog w = .ok 2 w := fun _ => by kernel_rfl
  rw [run_slice_l W 25 (some ⟨g, o, none⟩) len cap ht .i64 (k : Int) (by omega) (by omega), hs]
  simp only [Result.andThen, sliced, Int.toNat_natCast, Option.map_some, add_plain]
  unfold fromR
  by_cases e : cap = k
  · simp [e]
  · simp [e]
theorem slice_cutR (W : World) (g o len cap k : Nat) (K : Int) (hK : K = (k : Int)) (h : k ≤ cap) :
    (Instr.slice 25 (.slice (some ⟨g, o, none⟩) len cap) none (some (.int .i64 K)) (some (.int .i64 K))).run Try.prog W = .ok (.slice (some ⟨g, o, none⟩) k k) W := by
  subst hK
  have ht : Try.prog.underlying 25 = some (.slice (Try.prog.elem 25)) := by kernel_rfl
  have hs : ∀ w, (sizeOf (Try.prog.elem 25)).run Try.prog w = .ok 2 w := fun _ => by kernel_rfl
  rw [run_slice_hm W 25 (some ⟨g, o, none⟩) len cap ht .i64 .i64 (k : Int) (k : Int) (by omega) (by omega) (by omega), hs]
  simp [Result.andThen, sliced, Addr.add]
theorem PropsAt.fromRw {w : World} {g o : Nat} {l : List PropV} (h : PropsAt w (some ⟨g, o, none⟩) l) {cap : Nat} (k : Nat) (hc : l.length ≤ cap) : PropsAt w (some ⟨g, fromR o cap k, none⟩) (l.drop k) := fun j hj => by
  have hj' : k + j < l.length := by rw [List.length_drop] at hj; omega
  have ho := h.at0R hj'
  obtain ⟨_, _, e, hlt, _⟩ := h (k + j) hj'
  cases e
  refine ⟨g, fromR o cap k, rfl, hlt, ?_⟩
  rw [List.getElem_drop]
  unfold fromR
  rw [if_neg (by omega), Nat.add_assoc, ← Nat.add_mul]
  exact ho
theorem PropsAt.takeRw {w : World} {b off : Nat} {l : List PropV} (h : PropsAt w (some ⟨b, off, none⟩) l) (k : Nat) : PropsAt w (some ⟨b, off, none⟩) (l.take k) := fun j hj => by
  have hj' : j < l.length := by rw [List.length_take] at hj; omega
  obtain ⟨b', off', e, hlt, ho⟩ := h j hj'
  exact ⟨b', off', e, hlt, by rw [List.getElem_take]; exact ho⟩
theorem make_capR (n : Nat) (N : Int) (hN : N = (n : Int)) (hn : n ≤ 1048576) (w : World) : (Instr.makeSlice 25 (.int .i64 0) (.int .i64 N)).run Try.prog w = .ok (.slice (some ⟨w.heap.size, 0, none⟩) 0 n) (w.alloc (.cells (flatG PropV.cells (List.replicate n PropV.zero)).toArray 43)) := by
  subst hN
  obtain ⟨i, hi, hz⟩ := Option.map_eq_some_iff.1 infoRow
  simp only [Prod.mk.injEq] at hz
  obtain ⟨hz, hs, hb⟩ := hz
  have h := run_make (P := Try.prog) w 25 43 i _ Try.underlying25 hi hz .i64 .i64 0 n (by omega) (by omega) (by rw [hb]; omega) (by omega)
  simp only [Int.toNat_natCast, hs] at h
  rw [← made_cells prop_len (by omega) PropV.zero n]
  exact h
def aheadFnR : Value := .func (.func 25) #[] #[]
theorem news1R (x : World) (o : PropV) (T : TypeId) : ∀ j u, o.cells[j]? = some u → (x.alloc (.cells #[.string o.key, .string o.value] T)).drew.cell? ((⟨x.heap.size, 0, none⟩ : Addr).add j) = some u := by
  intro j u hu
  rw [Addr.add_lit, Nat.zero_add]
  show (x.alloc (.cells #[.string o.key, .string o.value] T)).cell? ⟨x.heap.size, j, none⟩ = some u
  rw [World.cell?_alloc_at _ _ _ _ rfl]
  simpa [PropV.cells] using hu
def sliceLenR : Value → Nat
  | .slice _ n _ => n
  | _ => 0
set_option maxRecDepth 100000 in
set_option maxHeartbeats 1000000 in
theorem mergedR_any (a b : List PropV) (ao bo : Option Addr) (ca cb : Nat) (w : World) (ha : a.length ≤ 400) (hb : b.length ≤ 400) (hca : a.length ≤ ca) (hcb : b.length ≤ cb) (hA : PropsAt w ao a) (hB : PropsAt w bo b) :
    Calls Try.prog 38 #[.slice ao a.length ca, .slice bo b.length cb, aheadFnR] w fun e w' => ∃ v, e = .returned v ∧ OwnR w' w.heap.size v (mrgR a b) ∧ Below w.heap.size w w' := by
  unfold aheadFnR
  have hmk := fun W => make_capR (a.length + b.length) ((a.length : Int) + (b.length : Int)) (by omega) (by omega) W
  have HA : Hid (PropsAt w ao a) := ⟨hA⟩
  have HB : Hid (PropsAt w bo b) := ⟨hB⟩
  clear hA hB
  have HCa : Hid (a.length ≤ ca) := ⟨hca⟩
  have HCb : Hid (b.length ≤ cb) := ⟨hcb⟩
  clear hca hcb
  have hown0 := World.ownsRow_made (base := w.heap.size) (e := 43) (size := 2) w (flatG PropV.cells (List.replicate (a.length + b.length) PropV.zero)).toArray (a.length + b.length) (Nat.le_refl _) (by unfold maxLen; omega) (by simp [flatG_len prop_len])
  have HO0 : Hid (OwnR (w.alloc (.cells (flatG PropV.cells (List.replicate (a.length + b.length) PropV.zero)).toArray 43)) w.heap.size (.slice (some ⟨w.heap.size, 0, none⟩) 0 (a.length + b.length)) []) := ⟨hown0, by simp⟩
  clear hown0
  obtain ⟨i0, hi, hzz⟩ := Option.map_eq_some_iff.1 infoRow
  simp only [Prod.mk.injEq] at hzz
  obtain ⟨hz0, hz1, hz2⟩ := hzz
  go_enter Try.func38, Try.ntmps38
  go_wp2
  clear hmk
  go_loopw [0, 1, 7] (fun va vb vo wr => ∃ p q out pao qbo pc qc, va = .slice pao (List.length p) pc ∧ vb = .slice qbo (List.length q) qc ∧ List.length p ≤ pc ∧ List.length q ≤ qc ∧ PropsAt w pao p ∧ PropsAt w qbo q ∧ OwnR wr w.heap.size vo out ∧ out ++ mrgR p q = mrgR a b ∧ List.length out + p.length + q.length = a.length + b.length ∧ Below w.heap.size w wr) (fun va vb _ _ => sliceLenR va + sliceLenR vb)
  case atStart => exact ⟨a, b, [], ao, bo, ca, cb, rfl, rfl, HCa.out, HCb.out, HA.out, HB.out, HO0.out, rfl, by simp, (Below.refl _ _).alloc (Nat.le_refl _) _⟩
  case round =>
    obtain ⟨p, q, out, pao, qbo, pc, qc, rfl, rfl, hpc, hqc, hP, hQ, hO, hM, hlen, hbw⟩ := hrel
    have HP : Hid (PropsAt w pao p) := ⟨hP⟩
    have HQ : Hid (PropsAt w qbo q) := ⟨hQ⟩
    have HO : Hid (OwnR wr w.heap.size u7 out) := ⟨hO⟩
    have HM : Hid (out ++ mrgR p q = mrgR a b) := ⟨hM⟩
    clear hP hQ hO hM
    by_cases hp : 0 < p.length
    · by_cases hq : 0 < q.length
      · obtain ⟨x, p, rfl⟩ : ∃ x p', p = x :: p' := by cases p with | nil => simp at hp | cons x p' => exact ⟨x, p', rfl⟩
        obtain ⟨y, q, rfl⟩ : ∃ y q', q = y :: q' := by cases q with | nil => simp at hq | cons y q' => exact ⟨y, q', rfl⟩
        obtain ⟨g1, o1, rfl, hlt1, ho1⟩ := HP.out 0 (by simp)
        obtain ⟨g2, o2, rfl, hlt2, ho2⟩ := HQ.out 0 (by simp)
        have hx0 : PropAt w g1 o1 x := by simpa using ho1
        have hy0 : PropAt w g2 o2 y := by simpa using ho2
        have HX : Hid (PropAt w g1 o1 x) := ⟨hx0⟩
        have HY : Hid (PropAt w g2 o2 y) := ⟨hy0⟩
        obtain ⟨c0, c1⟩ := hx0.block (hbw.block g1 hlt1)
        obtain ⟨d0, d1⟩ := hy0.block (hbw.block g2 hlt2)
        have hcall := fun W => rowAhead_any y x W
        unfold PropV.agg at hcall
        simp only [show (keyLt y.key x.key) = ltR y x from rfl] at hcall
        simp only [List.length_cons] at hlen hpc hqc hp hq ⊢
        clear hx0 hy0 ho1 ho2
        obtain ⟨g, cap, rfl, hg1, hg2, hcap, hcm⟩ := HO.out.at
        go_wp2
        go_region_held3 (fun w' => w'.cell? ⟨g1, o1, none⟩ = some (.string x.key) ∧ w'.cell? ⟨g1, o1 + 1, none⟩ = some (.string x.value) ∧ w'.cell? ⟨g2, o2, none⟩ = some (.string y.key) ∧ w'.cell? ⟨g2, o2 + 1, none⟩ = some (.string y.value)) (exact ⟨c0, c1, d0, d1⟩) (first | (go_at_call 25; refine (hcall _).mono ?_; rintro e x1 ⟨rfl, hx1⟩; have hX : Below w.heap.size w x1 := hbw.drew.trans (hx1.mono hbw.size); obtain ⟨c0, c1⟩ := HX.out.block (hX.block g1 hlt1); obtain ⟨d0, d1⟩ := HY.out.block (hX.block g2 hlt2)))
        clear hcall c0 c1 d0 d1
        have HO1 : Hid (OwnR x1 w.heap.size (.slice (some ⟨g, 0, none⟩) out.length cap) out) := ⟨HO.out.below ((Below.refl _ _).drew.trans (hx1.mono (by simp)))⟩
        cases ha : ltR y x
        · go_wp2
          have hsl := fun W => slice_fromR W g1 o1 (p.length + 1) pc 1 1 rfl (by omega)
          have hXs := hX.size
          go_region_held3 (fun w' => w'.cell? ⟨g1, o1, none⟩ = some (.string x.key) ∧ w'.cell? ⟨g1, o1 + 1, none⟩ = some (.string x.value)) (first | exact HX.out.block (hX.drew.block g1 hlt1) | exact HX.out.block ((hX.alloc hXs _).drew.block g1 hlt1) | exact HX.out.block (hYY.block g1 hlt1)) ((refine step_append_lies _ (by rfl) _ _ _ (by rfl) w.heap.size 43 i0 _ 2 32 Try.underlying25 hi hz0 hz1 hz2 rfl (by decide) _ out.length (flatG PropV.cells out) (by rfl) (HO1.out.1.alloc _).drewn ⟨x1.heap.size, 0, none⟩ 1 1 x.cells (by rfl) rfl (news1R x1 _ _) (one1Rw _) (by omega) (by unfold maxLen; omega) (by omega) (by simp; omega) (x1.heap.size + 1) (by simp) ?_; intro gn cn y1 hown hgrow hatn hltn; have hYY : Below w.heap.size w y1 := (hX.alloc hXs _).drew.grown hgrow (by simp; omega) (fun j hj => by simp [Value.ownBlock] at hj; omega)))
          have HO2 : Hid (OwnR y1 w.heap.size (.slice (some ⟨gn, 0, none⟩) (out.length + 1) cn) (out ++ [x])) := ⟨by
            have e1 : (out ++ [x]).length = out.length + 1 := by simp
            have e2 : flatG PropV.cells (out ++ [x]) = flatG PropV.cells out ++ x.cells := by rw [flatG_app]; simp [flatG]
            rw [e1, e2]; exact hown, by simp⟩
          have HP2 : Hid (PropsAt w (some ⟨g1, fromR o1 pc 1, none⟩) p) := ⟨by have h2 := HP.out.fromRw (cap := pc) 1 (by simp; omega); simpa using h2⟩
          have HM2 : Hid ((out ++ [x]) ++ mrgR p (y :: q) = mrgR a b) := ⟨by rw [← HM.out, mrgR_left p q ha]; simp⟩
          clear hown hgrow hatn
          go_wp2
          go_roundw
          case rel => exact ⟨p, y :: q, out ++ [x], _, _, pc - 1, qc, rfl, rfl, by omega, by simp; omega, HP2.out, HQ.out, HO2.out, HM2.out, by simp; omega, hYY⟩
          case measure => simp [sliceLenR]
        · go_wp2
          have hsl := fun W => slice_fromR W g2 o2 (q.length + 1) qc 1 1 rfl (by omega)
          have hXs := hX.size
          go_region_held3 (fun w' => w'.cell? ⟨g2, o2, none⟩ = some (.string y.key) ∧ w'.cell? ⟨g2, o2 + 1, none⟩ = some (.string y.value)) (first | exact HY.out.block (hX.drew.block g2 hlt2) | exact HY.out.block ((hX.alloc hXs _).drew.block g2 hlt2) | exact HY.out.block (hYY.block g2 hlt2)) ((refine step_append_lies _ (by rfl) _ _ _ (by rfl) w.heap.size 43 i0 _ 2 32 Try.underlying25 hi hz0 hz1 hz2 rfl (by decide) _ out.length (flatG PropV.cells out) (by rfl) (HO1.out.1.alloc _).drewn ⟨x1.heap.size, 0, none⟩ 1 1 y.cells (by rfl) rfl (news1R x1 _ _) (one1Rw _) (by omega) (by unfold maxLen; omega) (by omega) (by simp; omega) (x1.heap.size + 1) (by simp) ?_; intro gn cn y1 hown hgrow hatn hltn; have hYY : Below w.heap.size w y1 := (hX.alloc hXs _).drew.grown hgrow (by simp; omega) (fun j hj => by simp [Value.ownBlock] at hj; omega)))
          have HO2 : Hid (OwnR y1 w.heap.size (.slice (some ⟨gn, 0, none⟩) (out.length + 1) cn) (out ++ [y])) := ⟨by
            have e1 : (out ++ [y]).length = out.length + 1 := by simp
            have e2 : flatG PropV.cells (out ++ [y]) = flatG PropV.cells out ++ y.cells := by rw [flatG_app]; simp [flatG]
            rw [e1, e2]; exact hown, by simp⟩
          have HQ2 : Hid (PropsAt w (some ⟨g2, fromR o2 qc 1, none⟩) q) := ⟨by have h2 := HQ.out.fromRw (cap := qc) 1 (by simp; omega); simpa using h2⟩
          have HM2 : Hid ((out ++ [y]) ++ mrgR (x :: p) q = mrgR a b) := ⟨by rw [← HM.out, mrgR_right p q ha]; simp⟩
          clear hown hgrow hatn
          go_wp2
          go_roundw
          case rel => exact ⟨x :: p, q, out ++ [y], _, _, pc, qc - 1, rfl, rfl, by simp; omega, by omega, HP.out, HQ2.out, HO2.out, HM2.out, by simp; omega, hYY⟩
          case measure => simp [sliceLenR]
      · obtain ⟨g, cap, rfl, hg1, hg2, hcap, hcm⟩ := HO.out.at
        have HE : Hid ((out ++ p) ++ q = mrgR a b) := ⟨by rw [← HM.out, show q = [] from List.eq_nil_of_length_eq_zero (by omega), mrgR_nil_right]; simp⟩
        have hbs := hbw.size
        go_wp2_with (at_builtin; refine wpList_append_R rfl _ _ rfl w.heap.size _ out rfl HO.out.1 pao p pc rfl (HP.out.stays hbw) (by omega) hbs ?_)
        intro v1 w1 hown1 hgr1 hne1
        have hB1 : Below w.heap.size w w1 := hbw.grown hgr1 hbs (fun j hj => (HO.out.1.lt j hj).1)
        have HO1 : Hid (OwnR w1 w.heap.size v1 (out ++ p)) := ⟨by rw [List.length_append]; exact hown1, hne1⟩
        have hB1s := hB1.size
        clear hown1 hgr1 hne1
        go_wp2_with (at_builtin; refine wpList_append_R rfl _ _ rfl w.heap.size _ (out ++ p) rfl HO1.out.1 qbo q qc rfl (HQ.out.stays hB1) (by simp; omega) hB1s ?_)
        intro v2 w2 hown2 hgr2 hne2
        have hB2 : Below w.heap.size w w2 := hB1.grown hgr2 hB1s (fun j hj => (HO1.out.1.lt j hj).1)
        have HF : Hid (OwnR w2 w.heap.size v2 (mrgR a b)) := ⟨by rw [← HE.out]; simpa using hown2, fun hh => HO1.out.2 (by have := hne2.1 hh; first | exact this | exact this.1)⟩
        clear hown2 hgr2 hne2
        go_wp2
        go_ret
        exact ⟨v2, rfl, HF.out, hB2⟩
    · obtain ⟨g, cap, rfl, hg1, hg2, hcap, hcm⟩ := HO.out.at
      have HE : Hid ((out ++ p) ++ q = mrgR a b) := ⟨by rw [← HM.out, show p = [] from List.eq_nil_of_length_eq_zero (by omega), mrgR_nil_left]; simp⟩
      have hbs := hbw.size
      go_wp2_with (at_builtin; refine wpList_append_R rfl _ _ rfl w.heap.size _ out rfl HO.out.1 pao p pc rfl (HP.out.stays hbw) (by omega) hbs ?_)
      intro v1 w1 hown1 hgr1 hne1
      have hB1 : Below w.heap.size w w1 := hbw.grown hgr1 hbs (fun j hj => (HO.out.1.lt j hj).1)
      have HO1 : Hid (OwnR w1 w.heap.size v1 (out ++ p)) := ⟨by rw [List.length_append]; exact hown1, hne1⟩
      have hB1s := hB1.size
      clear hown1 hgr1 hne1
      go_wp2_with (at_builtin; refine wpList_append_R rfl _ _ rfl w.heap.size _ (out ++ p) rfl HO1.out.1 qbo q qc rfl (HQ.out.stays hB1) (by simp; omega) hB1s ?_)
      intro v2 w2 hown2 hgr2 hne2
      have hB2 : Below w.heap.size w w2 := hB1.grown hgr2 hB1s (fun j hj => (HO1.out.1.lt j hj).1)
      have HF : Hid (OwnR w2 w.heap.size v2 (mrgR a b)) := ⟨by rw [← HE.out]; simpa using hown2, fun hh => HO1.out.2 (by have := hne2.1 hh; first | exact this | exact this.1)⟩
      clear hown2 hgr2 hne2
      go_wp2
      go_ret
      exact ⟨v2, rfl, HF.out, hB2⟩
end Go.Proofs.Ytmidembbanlleag.OpR
