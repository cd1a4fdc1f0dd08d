/- Proves what impl.merged makes of two rows of what was seen: one row, in memory of its own. -/
import Derived.Test.YtdjjpaleemnikaaSnR
import Derived.Test.YtdjjpaleemnikaaRowG
import Derived.Test.YtdjjpaleemnikaaRowO
namespace Go.Proofs.Ytdjjpaleemnikaa.OpR
open Go.ChangeShapes Go.WideShapes Go.ChangeAt Go.RowKit
set_option linter.unusedVariables false

def ltE (a b : SeenV) : Bool := decide (a.repl < b.repl)
def leE (a b : SeenV) : Bool := !ltE b a
def mrgE (a b : List SeenV) : List SeenV := List.merge a b leE
theorem mrgE_nil_left (b : List SeenV) : mrgE [] b = b := by simp [mrgE]
theorem mrgE_nil_right (a : List SeenV) : mrgE a [] = a := by simp [mrgE]
theorem mrgE_right {x y : SeenV} (a b : List SeenV) (h : ltE y x = true) : mrgE (x :: a) (y :: b) = y :: mrgE (x :: a) b := by
  unfold mrgE; rw [List.cons_merge_cons]; simp [leE, h]
theorem mrgE_left {x y : SeenV} (a b : List SeenV) (h : ltE y x = false) : mrgE (x :: a) (y :: b) = x :: mrgE a (y :: b) := by
  unfold mrgE; rw [List.cons_merge_cons]; simp [leE, h]
theorem mrgE_perm (a b : List SeenV) : (mrgE a b).Perm (a ++ b) := List.merge_perm_append leE
theorem mrgE_len (a b : List SeenV) : (mrgE a b).length = a.length + b.length := by rw [(mrgE_perm a b).length_eq, List.length_append]

theorem SeensAt.at0E {w : World} {b off : Nat} {l : List SeenV} (h : SeensAt w (some ⟨b, off, none⟩) l) {k : Nat} (hk : k < l.length) : SeenAt w b (off + k * 2) l[k] := by
  obtain ⟨b', off', e, _, ho⟩ := h k hk
  cases e
  exact ho
theorem SeensAt.news {w : World} {ad : Addr} {l : List SeenV} (h : SeensAt w (some ad) l) : ∀ j u, (flatG SeenV.cells l)[j]? = some u → w.cell? (ad.add j) = some u := by
  intro j u hu
  have hj : j < l.length * 2 := by rw [← flatG_len seen_len]; exact (List.getElem?_eq_some_iff.1 hu).1
  obtain ⟨k, f, rfl, hf⟩ : ∃ k f, j = k * 2 + f ∧ f < 2 := ⟨j / 2, j % 2, by omega, by omega⟩
  have hk : k < l.length := by omega
  rw [flatG_get seen_len l k f hk hf] at hu
  obtain ⟨b', off', e, _, c0, c1⟩ := h k hk
  cases e
  rw [Addr.add_lit]
  match f, hf with
  | 0, _ => exact c0.trans hu
  | 1, _ => exact c1.trans hu
theorem SeensAt.nil_of {w : World} {l : List SeenV} (h : SeensAt w none l) : l = [] := by
  cases l with
  | nil => rfl
  | cons o r => obtain ⟨b, off, e, _⟩ := h 0 (by simp); cases e
theorem oneE : ∀ (l : List SeenV), ∀ u ∈ flatG SeenV.cells l, u.oneCell' = true := by
  intro l u hu
  obtain ⟨o, _, ho⟩ := List.mem_flatMap.1 hu
  simp only [SeenV.cells, List.mem_cons, List.not_mem_nil, or_false] at ho
  rcases ho with rfl | rfl <;> rfl
theorem one1E (o : SeenV) : ∀ u ∈ o.cells, u.oneCell' = true := fun u hu => oneE [o] u (by simpa [flatG] using hu)
/-- A row that the call owns, at a place. -/
def OwnE (w : World) (base : Nat) (v : Value) (l : List SeenV) : Prop := w.ownsRow base 67 2 v l.length (flatG SeenV.cells l) ∧ v ≠ .slice none 0 0
theorem OwnE.at {w : World} {base : Nat} {v : Value} {l : List SeenV} (h : OwnE w base v l) : ∃ g cap, v = .slice (some ⟨g, 0, none⟩) l.length cap ∧ base ≤ g ∧ g < w.heap.size ∧ l.length ≤ cap ∧ cap ≤ maxLen := by
  rcases h.1.2 with ⟨e, _⟩ | ⟨g, cap, cur, rfl, hb, hg, hl, hm, hs, ht⟩
  · exact absurd e h.2
  · exact ⟨g, cap, rfl, hb, (Array.getElem?_eq_some_iff.1 hg).1, hl, hm⟩
theorem OwnE.below {w w' : World} {base : Nat} {v : Value} {l : List SeenV} (h : OwnE w base v l) (hb : Below w.heap.size w w') : OwnE w' base v l :=
  ⟨h.1.kept (row := none) ⟨hb.os, hb.tape, hb.output, hb.size, fun k hk _ => hb.block k hk⟩ (by cases hv : v.ownBlock <;> simp), h.2⟩
theorem owns_cellsE {w : World} {base : Nat} {ao : Option Addr} {cap : Nat} {l : List SeenV} (h : w.ownsRow base 67 2 (.slice ao l.length cap) l.length (flatG SeenV.cells l)) : SeensAt w ao l := by
  rcases h.2 with ⟨e, hn⟩ | ⟨g, cap', cur, e, hb, hg, h1, h2, h3, h4⟩
  · rw [List.eq_nil_of_length_eq_zero hn]
    exact fun j hj => absurd hj (by simp)
  · simp only [Value.slice.injEq] at e
    obtain ⟨rfl, _, _⟩ := e
    intro j hj
    refine ⟨g, 0, rfl, (Array.getElem?_eq_some_iff.1 hg).1, ?_⟩
    have hc := fun f (hf : f < 2) (u : Value) (hu : l[j].cells[f]? = some u) => h.cells rfl (j * 2 + f) u ((flatG_get seen_len l j f hj hf).trans hu)
    simp only [Addr.add_lit] at hc
    exact ⟨hc 0 (by omega) _ rfl, hc 1 (by omega) _ rfl⟩
theorem owns_atE {w : World} {base : Nat} {v : Value} {l : List SeenV} (h : w.ownsRow base 67 2 v l.length (flatG SeenV.cells l)) : ∃ ao c, v = .slice ao l.length c ∧ l.length ≤ c ∧ SeensAt w ao l := by
  have h' := h
  rcases h.2 with ⟨e, hn⟩ | ⟨g, cap', cur, e, hb, hg, h1, h2, h3, h4⟩
  · have hl : l = [] := List.eq_nil_of_length_eq_zero hn
    subst hl
    exact ⟨none, 0, e, Nat.le_refl _, fun j hj => absurd hj (by simp)⟩
  · rw [e] at h'
    exact ⟨_, cap', e, h1, owns_cellsE h'⟩
/-- Elements appended to a row that the call owns: whatever slice they lie in, nil too. -/
theorem wpList_append_E {ops : Array Oper} {rest : List Oper} {o : Oper} {a : Act} {w : World} {Q : Exit → Act → World → Prop} (hgd : o.guard = none) (s x : Operand)
    (ho : o.op = .call { callee := .builtin .append, args := #[s, x], argTypes := #[29, 29] })
    (base : Nat) (v : Value) (out : List SeenV) (hs : a.eval s = v) (hown : w.ownsRow base 67 2 v out.length (flatG SeenV.cells out))
    (ao : Option Addr) (m : List SeenV) (c : Nat) (hx : a.eval x = .slice ao m.length c) (hA : SeensAt w ao m)
    (hlen : out.length + m.length ≤ 2200000) (hbase : base ≤ w.heap.size)
    (h : ∀ v' w', w'.ownsRow base 67 2 v' (out ++ m).length (flatG SeenV.cells (out ++ m)) → w.grownBy w' v.ownBlock → (v' = .slice none 0 0 ↔ v = .slice none 0 0 ∧ m.length = 0) → wpList Try.prog ops Q rest (a.put o.dst v') w') : wpList Try.prog ops Q (o :: rest) a w := by
  obtain ⟨i0, hi, hzz⟩ := Option.map_eq_some_iff.1 infoSeen
  simp only [Prod.mk.injEq] at hzz
  obtain ⟨hz0, hz1, hz2⟩ := hzz
  have hm : maxLen = 9223372036854775807 := rfl
  cases ao with
  | some ad =>
    refine wpList_append_own _ hgd s x 29 ho base 67 i0 _ 2 16 Try.underlying29 hi hz0 hz1 hz2 rfl (by decide) v out.length (flatG SeenV.cells out) hs hown ad m.length c (flatG SeenV.cells m) hx (flatG_len seen_len m) hA.news (oneE m) (by omega) (by omega) hbase (fun v' w' h1 h2 h3 => h v' w' ?_ h2 h3)
    rw [List.length_append, flatG_app]; exact h1
  | none =>
    obtain rfl := hA.nil_of
    have hrun : (Builtin.append_ #[29, 29] o.type #[v, .slice none 0 c]).run Try.prog w = .ok v w := by
      rcases hown.2 with ⟨rfl, _⟩ | ⟨g, cap, cur, rfl, _, _, hnc, _⟩
      · simp [Builtin.append_, run_underlying Try.underlying29, sizeOf, typeInfo, hi, Builtin.lenOf, Builtin.firstCells]
      · simp [Builtin.append_, run_underlying Try.underlying29, sizeOf, typeInfo, hi, Builtin.lenOf, Builtin.firstCells, loadCells, storeCells, hnc]
    refine wpList_plain hgd fun K hK => ?_
    have hx' : a.eval x = .slice none 0 c := hx
    unfold Oper.wp execOp
    simp only [ho, resolve, invoke, builtin, Sem.run_bind, Sem.run_pure, Result.andThen_ok, List.map_toArray, List.map_cons, List.map_nil, hs, hx', hrun]
    refine hK _ _ (h v w ?_ ⟨rfl, rfl, rfl, Nat.le_refl _, fun _ _ _ => rfl⟩ (by simp))
    rw [List.append_nil]; exact hown
/-- Where a slice from k on begins. -/
def fromE (o cap k : Nat) : Nat := if cap = k then o else o + k * 2
theorem slice_fromE (W : World) (g o len cap k : Nat) (K : Int) (hK : K = (k : Int)) (h : k ≤ len) :
    (Instr.slice 29 (.slice (some ⟨g, o, none⟩) len cap) (some (.int .i64 K)) none none).run Try.prog W = .ok (.slice (some ⟨g, fromE o cap k, none⟩) (len - k) (cap - k)) W := by
  subst hK
  have ht : Try.prog.underlying 29 = some (.slice (Try.prog.elem 29)) := by kernel_rfl
  have hs : ∀ w, (sizeOf (Try.prog.elem 29)).run Try.prog w = .ok 2 w := fun _ => by kernel_rfl
  rw [run_slice_l W 29 (some ⟨g, o, none⟩) len cap ht .i64 (k : Int) (by omega) (by omega), hs]
  simp only [Result.andThen, sliced, Int.toNat_natCast, Option.map_some, add_plain]
  unfold fromE
  by_cases e : cap = k
  · simp [e]
  · simp [e]
theorem slice_cutE (W : World) (g o len cap k : Nat) (K : Int) (hK : K = (k : Int)) (h : k ≤ cap) :
    (Instr.slice 29 (.slice (some ⟨g, o, none⟩) len cap) none (some (.int .i64 K)) (some (.int .i64 K))).run Try.prog W = .ok (.slice (some ⟨g, o, none⟩) k k) W := by
  subst hK
  have ht : Try.prog.underlying 29 = some (.slice (Try.prog.elem 29)) := by kernel_rfl
  have hs : ∀ w, (sizeOf (Try.prog.elem 29)).run Try.prog w = .ok 2 w := fun _ => by kernel_rfl
  rw [run_slice_hm W 29 (some ⟨g, o, none⟩) len cap ht .i64 .i64 (k : Int) (k : Int) (by omega) (by omega) (by omega), hs]
  simp [Result.andThen, sliced, Addr.add]
theorem SeensAt.from {w : World} {g o : Nat} {l : List SeenV} (h : SeensAt w (some ⟨g, o, none⟩) l) {cap : Nat} (k : Nat) (hc : l.length ≤ cap) : SeensAt w (some ⟨g, fromE o cap k, none⟩) (l.drop k) := fun j hj => by
  have hj' : k + j < l.length := by rw [List.length_drop] at hj; omega
  have ho := h.at0E hj'
  obtain ⟨_, _, e, hlt, _⟩ := h (k + j) hj'
  cases e
  refine ⟨g, fromE o cap k, rfl, hlt, ?_⟩
  rw [List.getElem_drop]
  unfold fromE
  rw [if_neg (by omega), Nat.add_assoc, ← Nat.add_mul]
  exact ho
theorem SeensAt.take {w : World} {b off : Nat} {l : List SeenV} (h : SeensAt w (some ⟨b, off, none⟩) l) (k : Nat) : SeensAt w (some ⟨b, off, none⟩) (l.take k) := fun j hj => by
  have hj' : j < l.length := by rw [List.length_take] at hj; omega
  obtain ⟨b', off', e, hlt, ho⟩ := h j hj'
  exact ⟨b', off', e, hlt, by rw [List.getElem_take]; exact ho⟩
theorem make_capE (n : Nat) (N : Int) (hN : N = (n : Int)) (hn : n ≤ 1048576) (w : World) : (Instr.makeSlice 29 (.int .i64 0) (.int .i64 N)).run Try.prog w = .ok (.slice (some ⟨w.heap.size, 0, none⟩) 0 n) (w.alloc (.cells (flatG SeenV.cells (List.replicate n SeenV.zero)).toArray 67)) := by
  subst hN
  obtain ⟨i, hi, hz⟩ := Option.map_eq_some_iff.1 infoSeen
  simp only [Prod.mk.injEq] at hz
  obtain ⟨hz, hs, hb⟩ := hz
  have h := run_make (P := Try.prog) w 29 67 i _ Try.underlying29 hi hz .i64 .i64 0 n (by omega) (by omega) (by rw [hb]; omega) (by omega)
  simp only [Int.toNat_natCast, hs] at h
  rw [← made_cells seen_len (by omega) SeenV.zero n]
  exact h
def aheadFnE : Value := .func (.func 76) #[] #[]
theorem news1E (x : World) (o : SeenV) (T : TypeId) : ∀ j u, o.cells[j]? = some u → (x.alloc (.cells #[.int .i64 o.repl, .int .i64 o.many] T)).drew.cell? ((⟨x.heap.size, 0, none⟩ : Addr).add j) = some u := by
  intro j u hu
  rw [Addr.add_lit, Nat.zero_add]
  show (x.alloc (.cells #[.int .i64 o.repl, .int .i64 o.many] T)).cell? ⟨x.heap.size, j, none⟩ = some u
  rw [World.cell?_alloc_at _ _ _ _ rfl]
  simpa [SeenV.cells] using hu
def sliceLenE : Value → Nat
  | .slice _ n _ => n
  | _ => 0
set_option maxRecDepth 100000 in
set_option maxHeartbeats 1000000 in
theorem mergedE_any (a b : List SeenV) (ao bo : Option Addr) (ca cb : Nat) (w : World) (ha : a.length ≤ 400) (hb : b.length ≤ 400) (hca : a.length ≤ ca) (hcb : b.length ≤ cb) (hA : SeensAt w ao a) (hB : SeensAt w bo b) :
    Calls Try.prog 81 #[.slice ao a.length ca, .slice bo b.length cb, aheadFnE] w fun e w' => ∃ v, e = .returned v ∧ OwnE w' w.heap.size v (mrgE a b) ∧ Below w.heap.size w w' := by
  unfold aheadFnE
  have hmk := fun W => make_capE (a.length + b.length) ((a.length : Int) + (b.length : Int)) (by omega) (by omega) W
  have HA : Hid (SeensAt w ao a) := ⟨hA⟩
  have HB : Hid (SeensAt w bo b) := ⟨hB⟩
  clear hA hB
  have HCa : Hid (a.length ≤ ca) := ⟨hca⟩
  have HCb : Hid (b.length ≤ cb) := ⟨hcb⟩
  clear hca hcb
  have hown0 := World.ownsRow_made (base := w.heap.size) (e := 67) (size := 2) w (flatG SeenV.cells (List.replicate (a.length + b.length) SeenV.zero)).toArray (a.length + b.length) (Nat.le_refl _) (by unfold maxLen; omega) (by simp [flatG_len seen_len])
  have HO0 : Hid (OwnE (w.alloc (.cells (flatG SeenV.cells (List.replicate (a.length + b.length) SeenV.zero)).toArray 67)) w.heap.size (.slice (some ⟨w.heap.size, 0, none⟩) 0 (a.length + b.length)) []) := ⟨hown0, by simp⟩
  clear hown0
  obtain ⟨i0, hi, hzz⟩ := Option.map_eq_some_iff.1 infoSeen
  simp only [Prod.mk.injEq] at hzz
  obtain ⟨hz0, hz1, hz2⟩ := hzz
  go_enter Try.func81, Try.ntmps81
  go_wp2
  clear hmk
  go_loopw [0, 1, 7] (fun va vb vo wr => ∃ p q out pao qbo pc qc, va = .slice pao (List.length p) pc ∧ vb = .slice qbo (List.length q) qc ∧ List.length p ≤ pc ∧ List.length q ≤ qc ∧ SeensAt w pao p ∧ SeensAt w qbo q ∧ OwnE wr w.heap.size vo out ∧ out ++ mrgE p q = mrgE a b ∧ List.length out + p.length + q.length = a.length + b.length ∧ Below w.heap.size w wr) (fun va vb _ _ => sliceLenE va + sliceLenE vb)
  case atStart => exact ⟨a, b, [], ao, bo, ca, cb, rfl, rfl, HCa.out, HCb.out, HA.out, HB.out, HO0.out, rfl, by simp, (Below.refl _ _).alloc (Nat.le_refl _) _⟩
  case round =>
    obtain ⟨p, q, out, pao, qbo, pc, qc, rfl, rfl, hpc, hqc, hP, hQ, hO, hM, hlen, hbw⟩ := hrel
    have HP : Hid (SeensAt w pao p) := ⟨hP⟩
    have HQ : Hid (SeensAt w qbo q) := ⟨hQ⟩
    have HO : Hid (OwnE wr w.heap.size u7 out) := ⟨hO⟩
    have HM : Hid (out ++ mrgE p q = mrgE a b) := ⟨hM⟩
    clear hP hQ hO hM
    by_cases hp : 0 < p.length
    · by_cases hq : 0 < q.length
      · obtain ⟨x, p, rfl⟩ : ∃ x p', p = x :: p' := by cases p with | nil => simp at hp | cons x p' => exact ⟨x, p', rfl⟩
        obtain ⟨y, q, rfl⟩ : ∃ y q', q = y :: q' := by cases q with | nil => simp at hq | cons y q' => exact ⟨y, q', rfl⟩
        obtain ⟨g1, o1, rfl, hlt1, ho1⟩ := HP.out 0 (by simp)
        obtain ⟨g2, o2, rfl, hlt2, ho2⟩ := HQ.out 0 (by simp)
        have hx0 : SeenAt w g1 o1 x := by simpa using ho1
        have hy0 : SeenAt w g2 o2 y := by simpa using ho2
        have HX : Hid (SeenAt w g1 o1 x) := ⟨hx0⟩
        have HY : Hid (SeenAt w g2 o2 y) := ⟨hy0⟩
        obtain ⟨c0, c1⟩ := hx0.block (hbw.block g1 hlt1)
        obtain ⟨d0, d1⟩ := hy0.block (hbw.block g2 hlt2)
        have hcall := fun W => seenAhead_any y x W
        unfold SeenV.agg at hcall
        simp only [show (decide (y.repl < x.repl)) = ltE y x from rfl] at hcall
        simp only [List.length_cons] at hlen hpc hqc hp hq ⊢
        clear hx0 hy0 ho1 ho2
        obtain ⟨g, cap, rfl, hg1, hg2, hcap, hcm⟩ := HO.out.at
        go_wp2
        go_region_held3 (fun w' => w'.cell? ⟨g1, o1, none⟩ = some (.int .i64 x.repl) ∧ w'.cell? ⟨g1, o1 + 1, none⟩ = some (.int .i64 x.many) ∧ w'.cell? ⟨g2, o2, none⟩ = some (.int .i64 y.repl) ∧ w'.cell? ⟨g2, o2 + 1, none⟩ = some (.int .i64 y.many)) (exact ⟨c0, c1, d0, d1⟩) (first | (go_at_call 76; refine (hcall _).mono ?_; rintro e x1 ⟨rfl, hx1⟩; have hX : Below w.heap.size w x1 := hbw.drew.trans (hx1.mono hbw.size); obtain ⟨c0, c1⟩ := HX.out.block (hX.block g1 hlt1); obtain ⟨d0, d1⟩ := HY.out.block (hX.block g2 hlt2)))
        clear hcall c0 c1 d0 d1
        have HO1 : Hid (OwnE x1 w.heap.size (.slice (some ⟨g, 0, none⟩) out.length cap) out) := ⟨HO.out.below ((Below.refl _ _).drew.trans (hx1.mono (by simp)))⟩
        cases ha : ltE y x
        · go_wp2
          have hsl := fun W => slice_fromE W g1 o1 (p.length + 1) pc 1 1 rfl (by omega)
          have hXs := hX.size
          go_region_held3 (fun w' => w'.cell? ⟨g1, o1, none⟩ = some (.int .i64 x.repl) ∧ w'.cell? ⟨g1, o1 + 1, none⟩ = some (.int .i64 x.many)) (first | exact HX.out.block (hX.drew.block g1 hlt1) | exact HX.out.block ((hX.alloc hXs _).drew.block g1 hlt1) | exact HX.out.block (hYY.block g1 hlt1)) ((refine step_append_lies _ (by rfl) _ _ _ (by rfl) w.heap.size 67 i0 _ 2 16 Try.underlying29 hi hz0 hz1 hz2 rfl (by decide) _ out.length (flatG SeenV.cells out) (by rfl) (HO1.out.1.alloc _).drewn ⟨x1.heap.size, 0, none⟩ 1 1 x.cells (by rfl) rfl (news1E x1 _ _) (one1E _) (by omega) (by unfold maxLen; omega) (by omega) (by simp; omega) (x1.heap.size + 1) (by simp) ?_; intro gn cn y1 hown hgrow hatn hltn; have hYY : Below w.heap.size w y1 := (hX.alloc hXs _).drew.grown hgrow (by simp; omega) (fun j hj => by simp [Value.ownBlock] at hj; omega)))
          have HO2 : Hid (OwnE y1 w.heap.size (.slice (some ⟨gn, 0, none⟩) (out.length + 1) cn) (out ++ [x])) := ⟨by
            have e1 : (out ++ [x]).length = out.length + 1 := by simp
            have e2 : flatG SeenV.cells (out ++ [x]) = flatG SeenV.cells out ++ x.cells := by rw [flatG_app]; simp [flatG]
            rw [e1, e2]; exact hown, by simp⟩
          have HP2 : Hid (SeensAt w (some ⟨g1, fromE o1 pc 1, none⟩) p) := ⟨by have h2 := HP.out.from (cap := pc) 1 (by simp; omega); simpa using h2⟩
          have HM2 : Hid ((out ++ [x]) ++ mrgE p (y :: q) = mrgE a b) := ⟨by rw [← HM.out, mrgE_left p q ha]; simp⟩
          clear hown hgrow hatn
          go_wp2
          go_roundw
          case rel => exact ⟨p, y :: q, out ++ [x], _, _, pc - 1, qc, rfl, rfl, by omega, by simp; omega, HP2.out, HQ.out, HO2.out, HM2.out, by simp; omega, hYY⟩
          case measure => simp [sliceLenE]
        · go_wp2
          have hsl := fun W => slice_fromE W g2 o2 (q.length + 1) qc 1 1 rfl (by omega)
          have hXs := hX.size
          go_region_held3 (fun w' => w'.cell? ⟨g2, o2, none⟩ = some (.int .i64 y.repl) ∧ w'.cell? ⟨g2, o2 + 1, none⟩ = some (.int .i64 y.many)) (first | exact HY.out.block (hX.drew.block g2 hlt2) | exact HY.out.block ((hX.alloc hXs _).drew.block g2 hlt2) | exact HY.out.block (hYY.block g2 hlt2)) ((refine step_append_lies _ (by rfl) _ _ _ (by rfl) w.heap.size 67 i0 _ 2 16 Try.underlying29 hi hz0 hz1 hz2 rfl (by decide) _ out.length (flatG SeenV.cells out) (by rfl) (HO1.out.1.alloc _).drewn ⟨x1.heap.size, 0, none⟩ 1 1 y.cells (by rfl) rfl (news1E x1 _ _) (one1E _) (by omega) (by unfold maxLen; omega) (by omega) (by simp; omega) (x1.heap.size + 1) (by simp) ?_; intro gn cn y1 hown hgrow hatn hltn; have hYY : Below w.heap.size w y1 := (hX.alloc hXs _).drew.grown hgrow (by simp; omega) (fun j hj => by simp [Value.ownBlock] at hj; omega)))
          have HO2 : Hid (OwnE y1 w.heap.size (.slice (some ⟨gn, 0, none⟩) (out.length + 1) cn) (out ++ [y])) := ⟨by
            have e1 : (out ++ [y]).length = out.length + 1 := by simp
            have e2 : flatG SeenV.cells (out ++ [y]) = flatG SeenV.cells out ++ y.cells := by rw [flatG_app]; simp [flatG]
            rw [e1, e2]; exact hown, by simp⟩
          have HQ2 : Hid (SeensAt w (some ⟨g2, fromE o2 qc 1, none⟩) q) := ⟨by have h2 := HQ.out.from (cap := qc) 1 (by simp; omega); simpa using h2⟩
          have HM2 : Hid ((out ++ [y]) ++ mrgE (x :: p) q = mrgE a b) := ⟨by rw [← HM.out, mrgE_right p q ha]; simp⟩
          clear hown hgrow hatn
          go_wp2
          go_roundw
          case rel => exact ⟨x :: p, q, out ++ [y], _, _, pc, qc - 1, rfl, rfl, by simp; omega, by omega, HP.out, HQ2.out, HO2.out, HM2.out, by simp; omega, hYY⟩
          case measure => simp [sliceLenE]
      · obtain ⟨g, cap, rfl, hg1, hg2, hcap, hcm⟩ := HO.out.at
        have HE : Hid ((out ++ p) ++ q = mrgE a b) := ⟨by rw [← HM.out, show q = [] from List.eq_nil_of_length_eq_zero (by omega), mrgE_nil_right]; simp⟩
        have hbs := hbw.size
        go_wp2_with (at_builtin; refine wpList_append_E rfl _ _ rfl w.heap.size _ out rfl HO.out.1 pao p pc rfl (HP.out.stays hbw) (by omega) hbs ?_)
        intro v1 w1 hown1 hgr1 hne1
        have hB1 : Below w.heap.size w w1 := hbw.grown hgr1 hbs (fun j hj => (HO.out.1.lt j hj).1)
        have HO1 : Hid (OwnE w1 w.heap.size v1 (out ++ p)) := ⟨by rw [List.length_append]; exact hown1, hne1⟩
        have hB1s := hB1.size
        clear hown1 hgr1 hne1
        go_wp2_with (at_builtin; refine wpList_append_E rfl _ _ rfl w.heap.size _ (out ++ p) rfl HO1.out.1 qbo q qc rfl (HQ.out.stays hB1) (by simp; omega) hB1s ?_)
        intro v2 w2 hown2 hgr2 hne2
        have hB2 : Below w.heap.size w w2 := hB1.grown hgr2 hB1s (fun j hj => (HO1.out.1.lt j hj).1)
        have HF : Hid (OwnE w2 w.heap.size v2 (mrgE a b)) := ⟨by rw [← HE.out]; simpa using hown2, fun hh => HO1.out.2 (by have := hne2.1 hh; first | exact this | exact this.1)⟩
        clear hown2 hgr2 hne2
        go_wp2
        go_ret
        exact ⟨v2, rfl, HF.out, hB2⟩
    · obtain ⟨g, cap, rfl, hg1, hg2, hcap, hcm⟩ := HO.out.at
      have HE : Hid ((out ++ p) ++ q = mrgE a b) := ⟨by rw [← HM.out, show p = [] from List.eq_nil_of_length_eq_zero (by omega), mrgE_nil_left]; simp⟩
      have hbs := hbw.size
      go_wp2_with (at_builtin; refine wpList_append_E rfl _ _ rfl w.heap.size _ out rfl HO.out.1 pao p pc rfl (HP.out.stays hbw) (by omega) hbs ?_)
      intro v1 w1 hown1 hgr1 hne1
      have hB1 : Below w.heap.size w w1 := hbw.grown hgr1 hbs (fun j hj => (HO.out.1.lt j hj).1)
      have HO1 : Hid (OwnE w1 w.heap.size v1 (out ++ p)) := ⟨by rw [List.length_append]; exact hown1, hne1⟩
      have hB1s := hB1.size
      clear hown1 hgr1 hne1
      go_wp2_with (at_builtin; refine wpList_append_E rfl _ _ rfl w.heap.size _ (out ++ p) rfl HO1.out.1 qbo q qc rfl (HQ.out.stays hB1) (by simp; omega) hB1s ?_)
      intro v2 w2 hown2 hgr2 hne2
      have hB2 : Below w.heap.size w w2 := hB1.grown hgr2 hB1s (fun j hj => (HO1.out.1.lt j hj).1)
      have HF : Hid (OwnE w2 w.heap.size v2 (mrgE a b)) := ⟨by rw [← HE.out]; simpa using hown2, fun hh => HO1.out.2 (by have := hne2.1 hh; first | exact this | exact this.1)⟩
      clear hown2 hgr2 hne2
      go_wp2
      go_ret
      exact ⟨v2, rfl, HF.out, hB2⟩
end Go.Proofs.Ytdjjpaleemnikaa.OpR
