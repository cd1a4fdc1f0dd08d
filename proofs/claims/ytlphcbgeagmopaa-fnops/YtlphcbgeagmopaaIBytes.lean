/- Proves what impl.OpsBytes tells: the bytes of a right list of ops. -/
import Derived.Test.YtlphcbgeagmopaaBytesW
import Derived.Test.YtlphcbgeagmopaaIOps
namespace Go.Proofs.Ytlphcbgeagmopaa.OpR
open Go.ChangeShapes Go.WideShapes Go.ChangeAt Go.RowKit
open NumR (putNum putText)
set_option linter.unusedVariables false

theorem iPutN (n : Int) (h1 : -9223372036854775808 ≤ n) (h2 : n ≤ 9223372036854775807) (w : World) :
    Calls Try.prog 52 #[.int .i64 n] w fun e w' => e = .returned (.string (putNum n)) ∧ Below w.heap.size w w' := NumR.iPut_any n h1 h2 w

theorem infoS : (Try.prog.info? 9).map (fun i => (i.zero, i.size, i.bytes)) = some (some (.string ⟨#[]⟩), 1, 16) := by kernel_rfl
def strs (ts : List ByteArray) : List Value := ts.map .string
theorem strs_len (ts : List ByteArray) : (strs ts).length = ts.length := by simp [strs]
theorem strs_one (ts : List ByteArray) : ∀ u ∈ strs ts, u.oneCell' = true := by
  intro u hu
  obtain ⟨t, _, rfl⟩ := List.mem_map.1 hu
  rfl
/-- A row of texts that the call owns. -/
def StrsAt (w : World) (base : Nat) (v : Value) (ts : List ByteArray) : Prop := w.ownsRow base 9 1 v ts.length (strs ts) ∧ v ≠ .slice none 0 0
theorem StrsAt.at {w : World} {base : Nat} {v : Value} {ts : List ByteArray} (h : StrsAt w base v ts) : ∃ g cap, v = .slice (some ⟨g, 0, none⟩) ts.length cap ∧ base ≤ g ∧ g < w.heap.size ∧ ∀ j (hj : j < ts.length), w.cell? ⟨g, j, none⟩ = some (.string ts[j]) := by
  have h0 := h.1
  rcases h.1.2 with ⟨e, _⟩ | ⟨g, cap, cur, rfl, hb, hg, hl, hm, hs, ht⟩
  · exact absurd e h.2
  · refine ⟨g, cap, rfl, hb, (Array.getElem?_eq_some_iff.1 hg).1, fun j hj => ?_⟩
    have hc := h0.cells rfl j (.string ts[j]) (by simp [strs, hj])
    rwa [Addr.add_lit, Nat.zero_add] at hc
theorem StrsAt.below {w w' : World} {base : Nat} {v : Value} {ts : List ByteArray} (h : StrsAt w base v ts) (hb : Below w.heap.size w w') : StrsAt w' base v ts :=
  ⟨h.1.kept (row := none) ⟨hb.os, hb.tape, hb.output, hb.size, fun k hk _ => hb.block k hk⟩ (by cases hv : v.ownBlock <;> simp), h.2⟩
theorem StrsAt.one (x : World) (base : Nat) (t : ByteArray) (hb : base ≤ x.heap.size) : StrsAt (x.alloc (.cells #[.string t] 9)) base (.slice (some ⟨x.heap.size, 0, none⟩) 1 1) [t] :=
  ⟨⟨rfl, .inr ⟨x.heap.size, 1, #[.string t], rfl, hb, heap_alloc_new x _, Nat.le_refl _, by decide, rfl, rfl⟩⟩, by simp⟩
/-- The texts of an op, one by one. -/
def opParts (o : OpV) : List ByteArray := [putNum o.time, putNum o.repl, putNum o.kind, putNum o.node, putNum o.parent, putText o.name, putText o.value]
def partsOf (n : Nat) (l : List OpV) : List ByteArray := putNum (n : Int) :: l.flatMap opParts
theorem parts_snoc (n : Nat) (l : List OpV) (o : OpV) : partsOf n (l ++ [o]) = partsOf n l ++ opParts o := by simp [partsOf]
theorem parts_len (n : Nat) (l : List OpV) : (partsOf n l).length = 1 + 7 * l.length := by
  unfold partsOf
  induction l with
  | nil => rfl
  | cons o r ih => simp only [List.flatMap_cons, List.length_cons, List.length_append] at ih ⊢; simp [opParts] at ih ⊢; omega
theorem cat_from (t : ByteArray) (l : List OpV) : (bytesFrom t l).data.toList = t.data.toList ++ NumR.cat (l.flatMap opParts) := by
  induction l generalizing t with
  | nil => simp [bytesFrom, NumR.cat]
  | cons o r ih =>
    show (bytesFrom (addOp t o) r).data.toList = _
    rw [ih, List.flatMap_cons, NumR.cat_append]
    unfold addOp
    simp [opParts, NumR.cat]
theorem cat_parts (l : List OpV) : NumR.cat (partsOf l.length l) = (rawBytes l).data.toList := (cat_from (putNum l.length) l).symm
theorem raw_of (l : List OpV) : (⟨(NumR.cat (partsOf l.length l)).toArray⟩ : ByteArray) = rawBytes l := by
  rw [cat_parts]
theorem far_cells {wr x y : World} {ob : Obj} {row : Option Nat} {T : TypeId} {o : OpV} (h : VarOp wr.heap.size wr x wr.heap.size T o) (hg : (x.alloc ob).grownBy y row) (hne : row ≠ some wr.heap.size) : y.cell? ⟨wr.heap.size, 0, none⟩ = some (.int .i64 o.time) ∧ y.cell? ⟨wr.heap.size, 1, none⟩ = some (.int .i64 o.repl) ∧ y.cell? ⟨wr.heap.size, 2, none⟩ = some (.int .i64 o.kind) ∧ y.cell? ⟨wr.heap.size, 3, none⟩ = some (.int .i64 o.node) ∧ y.cell? ⟨wr.heap.size, 4, none⟩ = some (.int .i64 o.parent) ∧ y.cell? ⟨wr.heap.size, 5, none⟩ = some (.string o.name) ∧ y.cell? ⟨wr.heap.size, 6, none⟩ = some (.string o.value) := by
  have hlt : wr.heap.size < x.heap.size := (Array.getElem?_eq_some_iff.1 h.lies).1
  have e : y.heap[wr.heap.size]? = some (.cells #[.int .i64 o.time, .int .i64 o.repl, .int .i64 o.kind, .int .i64 o.node, .int .i64 o.parent, .string o.name, .string o.value] T (0, 0)) := by
    rw [hg.block wr.heap.size (by simp; omega) (fun e => hne e.symm), Below.heap_alloc x ob _ hlt]; exact h.lies
  refine ⟨?_, ?_, ?_, ?_, ?_, ?_, ?_⟩ <;> simp [World.cell?, e]
theorem news7 (x : World) (t0 t1 t2 t3 t4 t5 t6 : ByteArray) (T : TypeId) : ∀ j u, (strs [t0, t1, t2, t3, t4, t5, t6])[j]? = some u → (x.alloc (.cells #[.string t0, .string t1, .string t2, .string t3, .string t4, .string t5, .string t6] T)).cell? ((⟨x.heap.size, 0, none⟩ : Addr).add j) = some u := by
  intro j u hu
  rw [Addr.add_lit, Nat.zero_add, World.cell?_alloc_at _ _ _ _ rfl]
  simpa [strs] using hu

set_option maxRecDepth 100000 in
set_option maxHeartbeats 1000000 in
theorem iOpsBytes_any (l : List OpV) (ao : Option Addr) (cap : Nat) (w : World) (hl : l.length ≤ maxLen) (hcap : l.length ≤ cap) (hA : OpsAt w ao l) (hS : Sized l) :
    Calls Try.prog 10 #[.slice ao l.length cap] w fun e w' => e = .returned (.string (opsBytes l)) ∧ Below w.heap.size w w' := by
  have h1 := iOps_any l ao cap w hl hcap hA hS
  have HA : Hid (OpsAt w ao l) := ⟨hA⟩
  unfold maxLen at hl
  clear hA hS
  cases hr : opsRight l
  · have HB : Hid (opsBytes l = ByteArray.empty) := ⟨bytes_no hr⟩
    rw [hr] at h1
    clear hr
    go_enter Try.func10, Try.ntmps10
    go_wp2_with (first | (go_at_call 12; refine h1.mono ?_; rintro e w1 ⟨rfl, hb1⟩))
    go_ret
    exact ⟨by rw [HB.out]; rfl, hb1⟩
  · have hR := ops_of hr
    rw [hr] at h1
    have hz := raw_size hR
    have h150 := hR.1
    have HR : Hid (OpsR l) := ⟨hR⟩
    have HY : Hid (opsRight l = true) := ⟨hr⟩
    clear hr hR
    have h0 := iPutN (l.length : Int) (by omega) (by omega)
    go_enter Try.func10, Try.ntmps10
    go_wp2_with (first | (go_at_call 12; refine h1.mono ?_; rintro e w1 ⟨rfl, hb1⟩) | (go_at_call 52; refine (h0 _).mono ?_; rintro e w2 ⟨rfl, hb2⟩))
    have hbs1 := hb1.size
    have HP0 : Hid (StrsAt (w2.alloc (.cells #[.string (putNum (l.length : Int))] 9)) w.heap.size (.slice (some ⟨w2.heap.size, 0, none⟩) 1 1) (partsOf l.length (l.take 0))) := ⟨StrsAt.one w2 w.heap.size _ (by have := hb2.size; omega)⟩
    have hB2 : Below w.heap.size w (w2.alloc (.cells #[.string (putNum (l.length : Int))] 9)) := (hb1.trans (hb2.mono hbs1)).alloc (by have := hb2.size; omega) _
    clear h0 h1
    obtain ⟨i0, hi, hzz⟩ := Option.map_eq_some_iff.1 infoS
    simp only [Prod.mk.injEq] at hzz
    obtain ⟨hz0, hz1, hz2⟩ := hzz
    go_loopw [3, 16] (fun v i wr => ∃ k : Nat, k ≤ l.length ∧ i = .int .i64 k ∧ StrsAt wr w.heap.size v (partsOf l.length (l.take k)) ∧ Below w.heap.size w wr) (fun _ i _ => l.length - (intOf i).toNat)
    case atStart => exact ⟨0, by omega, rfl, HP0.out, hB2⟩
    case round =>
      obtain ⟨k, hk, rfl, hP, hb⟩ := hrel
      by_cases h : k < l.length
      · obtain ⟨ps, hps⟩ : ∃ ps, ps = partsOf l.length (l.take k) := ⟨_, rfl⟩
        rw [← hps] at hP
        have HPs : Hid (ps = partsOf l.length (l.take k)) := ⟨hps⟩
        have hpl : ps.length ≤ 1100 := by rw [hps, parts_len, List.length_take]; omega
        have HP : Hid (StrsAt wr w.heap.size u3 ps) := ⟨hP⟩
        clear hps hP
        obtain ⟨b, off, rfl, hlt, ho⟩ := HA.out k h
        obtain ⟨o, hoo⟩ : ∃ o, l[k] = o := ⟨_, rfl⟩
        obtain ⟨c0, c1, c2, c3, c4, c5, c6⟩ := ho.block (w' := wr) (hb.block b hlt)
        rw [hoo] at c0 c1 c2 c3 c4 c5 c6
        have hro := HR.out.2.1 k h
        rw [hoo] at hro
        have HOo : Hid (l[k] = o) := ⟨hoo⟩
        obtain ⟨r0, r1, r2, r3, r4, r5, r6, r7, r8, r9, r10⟩ := right_rng hro
        have hQ : VarOp wr.heap.size wr (wr.alloc (.cells #[.int .i64 o.time, .int .i64 o.repl, .int .i64 o.kind, .int .i64 o.node, .int .i64 o.parent, .string o.name, .string o.value] 40)) wr.heap.size 40 o := ⟨(Below.refl _ _).alloc (Nat.le_refl _) _, heap_alloc_new wr _⟩
        have hQd := hQ.step (Below.refl _ _).drew (by simp)
        have hC := hQd.cells
        have hN0 := iPutN o.time (by omega) (by omega)
        have hN1 := iPutN o.repl (by omega) (by omega)
        have hN2 := iPutN o.kind (by omega) (by omega)
        have hN3 := iPutN o.node (by omega) (by omega)
        have hN4 := iPutN o.parent (by omega) (by omega)
        have hN5 := fun w => NumR.iText_any o.name w (by unfold maxLen; omega)
        have hN6 := fun w => NumR.iText_any o.value w (by unfold maxLen; omega)
        have hi0 : (0 : Int) ≤ (k : Int) := by omega
        have hi1 : (k : Int) < (l.length : Int) := by omega
        have hBs := hb.size
        obtain ⟨gp, cp, rfl, hgp1, hgp2, hgp3⟩ := HP.out.at
        clear ho hoo hro r0 r1 r2 r3 r4 r5 r6 r7 r8 r9 r10 hgp3
        go_wp2
        clear c0 c1 c2 c3 c4 c5 c6
        go_region_held3 (fun w' => w'.cell? ⟨wr.heap.size, 0, none⟩ = some (.int .i64 o.time) ∧ w'.cell? ⟨wr.heap.size, 1, none⟩ = some (.int .i64 o.repl) ∧ w'.cell? ⟨wr.heap.size, 2, none⟩ = some (.int .i64 o.kind) ∧ w'.cell? ⟨wr.heap.size, 3, none⟩ = some (.int .i64 o.node) ∧ w'.cell? ⟨wr.heap.size, 4, none⟩ = some (.int .i64 o.parent) ∧ w'.cell? ⟨wr.heap.size, 5, none⟩ = some (.string o.name) ∧ w'.cell? ⟨wr.heap.size, 6, none⟩ = some (.string o.value)) (first | with_reducible exact hC | with_reducible exact hA7 _) (first | (go_at_call 52; refine (hN0 _).mono ?_; rintro e x1 ⟨rfl, hx1⟩; have hQ1 := hQd.step hx1 (by have := hQd.below.size; omega); have hC := hQ1.cells; clear hN0) | (go_at_call 52; refine (hN1 _).mono ?_; rintro e x2 ⟨rfl, hx2⟩; have hQ2 := hQ1.step hx2 (by have := hQ1.below.size; omega); have hC := hQ2.cells; clear hN1) | (go_at_call 52; refine (hN2 _).mono ?_; rintro e x3 ⟨rfl, hx3⟩; have hQ3 := hQ2.step hx3 (by have := hQ2.below.size; omega); have hC := hQ3.cells; clear hN2) | (go_at_call 52; refine (hN3 _).mono ?_; rintro e x4 ⟨rfl, hx4⟩; have hQ4 := hQ3.step hx4 (by have := hQ3.below.size; omega); have hC := hQ4.cells; clear hN3) | (go_at_call 52; refine (hN4 _).mono ?_; rintro e x5 ⟨rfl, hx5⟩; have hQ5 := hQ4.step hx5 (by have := hQ4.below.size; omega); have hC := hQ5.cells; clear hN4) | (go_at_call 53; refine (hN5 _).mono ?_; rintro e x6 ⟨rfl, hx6⟩; have hQ6 := hQ5.step hx6 (by have := hQ5.below.size; omega); have hC := hQ6.cells; clear hN5) | (go_at_call 53; refine (hN6 _).mono ?_; rintro e x7 ⟨rfl, hx7⟩; have hQ7 := hQ6.step hx7 (by have := hQ6.below.size; omega); have hC := hQ7.cells; clear hN6; have hA7 := fun (ob : Obj) => (hQ7.step (c' := x7.alloc ob) ((Below.refl _ _).alloc (Nat.le_refl _) _) (by have := hQ7.below.size; omega)).cells) | ((refine step_append_lies _ (by rfl) _ _ _ (by rfl) w.heap.size 9 i0 _ 1 16 Try.underlying78 hi hz0 hz1 hz2 rfl (by decide) _ ps.length (strs ps) (by rfl) (((HP.out.below hQ7.below).1).alloc _) ⟨x7.heap.size, 0, none⟩ 7 7 (strs (opParts o)) (by rfl) rfl (news7 x7 _ _ _ _ _ _ _ _) (strs_one _) (by omega) (by unfold maxLen; omega) (by omega) (by have := hQ7.below.size; simp; omega) (x7.heap.size + 1) (by simp) ?_; intro gn cn y1 hown hgrow hatn hltn; have hC := far_cells hQ7 hgrow (by simp [Value.ownBlock]; omega))))
        have hYw : Below w.heap.size w y1 := ((hb.trans (hQ7.below.mono hBs)).alloc (by have := hQ7.below.size; omega) _).grown hgrow (by have := hQ7.below.size; simp; omega) (fun j hj => by simp [Value.ownBlock] at hj; omega)
        have HP2 : Hid (StrsAt y1 w.heap.size (.slice (some ⟨gn, 0, none⟩) (ps.length + 7) cn) (partsOf l.length (l.take (k + 1)))) := ⟨by
          have e0 : l.take (k + 1) = l.take k ++ [l[k]] := by rw [List.take_add_one, List.getElem?_eq_getElem h]; rfl
          have e1 : partsOf l.length (l.take (k + 1)) = ps ++ opParts o := by rw [e0, parts_snoc, HPs.out, HOo.out]
          have e2 : (ps ++ opParts o).length = ps.length + 7 := by simp [opParts]
          have e3 : strs (ps ++ opParts o) = strs ps ++ strs (opParts o) := by simp [strs]
          rw [e1]
          refine ⟨?_, by simp⟩
          rw [e2, e3]
          exact hown⟩
        clear hown hgrow hatn hC hA7
        go_wp2
        go_roundw
        case rel => exact ⟨k + 1, by omega, by go_num, HP2.out, hYw⟩
        case measure => simp [intOf]; omega
      · obtain rfl : k = l.length := by omega
        rw [List.take_length] at hP
        obtain ⟨ps, hps⟩ : ∃ ps, ps = partsOf l.length l := ⟨_, rfl⟩
        rw [← hps] at hP
        have hpl : ps.length ≤ 1100 := by rw [hps, parts_len]; omega
        have hcat : (⟨(NumR.cat ps).toArray⟩ : ByteArray) = rawBytes l := by rw [hps]; exact raw_of l
        have hcl : (NumR.cat ps).length ≤ 1099511627776 := by
          rw [hps, cat_parts, NumR.size_list]; omega
        obtain ⟨gp, cp, rfl, hgp1, hgp2, hgp3⟩ := hP.at
        have hj := NumR.joined_cap ps cp gp wr hgp2 hgp3 hcl (by omega)
        rw [hcat] at hj
        clear hcat hcl hgp3 hP hps
        go_wp2_with (first | (go_at_call 54; refine hj.mono ?_; rintro e w3 ⟨rfl, hb3⟩; have hB3 := hb.trans (hb3.mono hb.size); clear hj))
        · go_ret
          exact ⟨by rw [bytes_far HY.out (by omega)]; rfl, hB3⟩
        · go_ret
          exact ⟨by rw [bytes_yes HY.out (by omega)]; rfl, hB3⟩
end Go.Proofs.Ytlphcbgeagmopaa.OpR
