/- Proves what spec's reader tells of ops. -/
import Derived.Test.YtlphcbgeagmopaaRdT
import Derived.Test.YtlphcbgeagmopaaRdE
namespace Go.Proofs.Ytlphcbgeagmopaa.OpR
open Go.ChangeShapes Go.WideShapes Go.ChangeAt Go.RowKit Go.ChangeMaps
set_option linter.unusedVariables false

theorem OwnAt.grownP {w w' : World} {base : Nat} {T : TypeId} {v : Value} {l : List OpV} {p : Nat} (h : OwnAt w base T v l) (hg : w.grownBy w' (some p)) (hp : p < base) : OwnAt w' base T v l :=
  ⟨h.1.kept hg (by
    cases hv : v.ownBlock with
    | none => exact .inl rfl
    | some k => exact .inr (fun e => by cases e; have := (h.1.lt p hv).1; omega)), h.2⟩
theorem SRd.lt {w : World} {p : Nat} {t : ByteArray} {st : Option Nat} (h : SRd w p t st) : p < w.heap.size := by
  obtain ⟨a, bad, h1, _⟩ := h
  exact (Array.getElem?_eq_some_iff.1 h1).1
theorem SRd.other {w : World} {p : Nat} {t : ByteArray} {st : Option Nat} (h : SRd w p t st) {b i : Nat} {x : Value} (hne : p ≠ b) : SRd (w.setCell ⟨b, i, none⟩ x) p t st := by
  obtain ⟨a, bad, h1, h2, h3⟩ := h
  exact ⟨a, bad, (heap_setCell_other w ⟨b, i, none⟩ p x hne).trans h1, h2, h3⟩
/-- Where the reading of ops stands. -/
structure RdAt (w X : World) (p : Nat) (t : ByteArray) (st : Option Nat) (v : Value) (L : List OpV) : Prop where
  rd : SRd X p t st
  own : OwnAt X w.heap.size 40 v L
  grown : w.grownBy X (some p)
theorem RdAt.call {w X Y : World} {p : Nat} {t : ByteArray} {st st' : Option Nat} {v : Value} {L : List OpV} (h : RdAt w X p t st v L) (hp : p < w.heap.size) (hr : SRd Y p t st') (hg : X.grownBy Y (some p)) : RdAt w Y p t st' v L :=
  ⟨hr, h.own.grownP hg hp, grown_trans' h.grown hg⟩

theorem SRd.grownR {w w' : World} {p : Nat} {t : ByteArray} {st : Option Nat} (h : SRd w p t st) {row : Option Nat} (hg : w.grownBy w' row) (hne : row ≠ some p) : SRd w' p t st := by
  have hlt := h.lt
  obtain ⟨a, bad, h1, h2, h3⟩ := h
  exact ⟨a, bad, (hg.block p hlt (fun e => hne e.symm)).trans h1, h2, h3⟩
theorem RdAt.more {w W y : World} {p : Nat} {t : ByteArray} {st : Option Nat} {v v' : Value} {L : List OpV} {o : OpV} (h : RdAt w W p t st v L) (hp : p < w.heap.size) (hg : W.grownBy y v.ownBlock) (hown : y.ownsRow w.heap.size 40 7 v' (L.length + 1) (flat L ++ o.cells)) (hne : v' ≠ .slice none 0 0) : RdAt w y p t st v' (L ++ [o]) := by
  refine ⟨h.rd.grownR hg (fun e => by have := (h.own.1.lt p e).1; omega), ⟨?_, hne⟩, ?_⟩
  · have e1 : (L ++ [o]).length = L.length + 1 := by simp
    have e2 : flat (L ++ [o]) = flat L ++ o.cells := by rw [flat_app]; simp [flat]
    rw [e1, e2]; exact hown
  · exact ⟨hg.os.trans h.grown.os, hg.tape.trans h.grown.tape, hg.output.trans h.grown.output, Nat.le_trans h.grown.size hg.size, fun k hk hn => (hg.block k (Nat.lt_of_lt_of_le hk h.grown.size) (fun e => by have := (h.own.1.lt k e.symm).1; omega)).trans (h.grown.block k hk hn)⟩
theorem rOp_adv {t : ByteArray} {a b : Nat} {o : OpV} (h : rOp t (some a) = (o, some b)) : a + 1 ≤ b ∧ b ≤ t.size := by
  obtain ⟨a', e, _, s1, s2, s3⟩ := rOp_back h
  cases e
  have hlen : 1 ≤ (opBytes o).length := by
    unfold opBytes
    rw [List.length_append]
    have := List.length_pos_iff.2 (put_ne o.time)
    omega
  omega
theorem rLoop_more {t : ByteArray} {k a : Nat} {L : List OpV} {o : OpV} {s : Option Nat} (h : rOp t (some a) = (o, s)) : rLoop t (k + 1) (L, some a) = rLoop t k (L ++ [o], s) := by
  show rLoop t k (L ++ [(rOp t (some a)).1], (rOp t (some a)).2) = _
  rw [h]
/-- The same, with a variable that holds an op. -/
structure Bo (w X : World) (p : Nat) (t : ByteArray) (st : Option Nat) (v : Value) (L : List OpV) (V : Nat) (o : OpV) : Prop where
  at0 : RdAt w X p t st v L
  lies : X.heap[V]? = some (.cells #[.int .i64 o.time, .int .i64 o.repl, .int .i64 o.kind, .int .i64 o.node, .int .i64 o.parent, .string o.name, .string o.value] 40 (0, 0))
  far : w.heap.size ≤ V
  own : v.ownBlock ≠ some V
theorem Bo.lt {w X : World} {p : Nat} {t : ByteArray} {st : Option Nat} {v : Value} {L : List OpV} {V : Nat} {o : OpV} (h : Bo w X p t st v L V o) : V < X.heap.size := (Array.getElem?_eq_some_iff.1 h.lies).1
theorem Bo.call {w X Y : World} {p : Nat} {t : ByteArray} {st st' : Option Nat} {v : Value} {L : List OpV} {V : Nat} {o : OpV} (h : Bo w X p t st v L V o) (hp : p < w.heap.size) (hr : SRd Y p t st') (hg : X.grownBy Y (some p)) : Bo w Y p t st' v L V o :=
  ⟨h.at0.call hp hr hg, (hg.block V h.lt (fun e => by cases e; have := h.far; omega)).trans h.lies, h.far, h.own⟩
theorem Bo.start {w x : World} {p : Nat} {t : ByteArray} {st : Option Nat} {v : Value} {L : List OpV} (h : RdAt w x p t st v L) (o : OpV) : Bo w (x.alloc (.cells #[.int .i64 o.time, .int .i64 o.repl, .int .i64 o.kind, .int .i64 o.node, .int .i64 o.parent, .string o.name, .string o.value] 40)) p t st v L x.heap.size o :=
  ⟨⟨h.rd.stays ((Below.refl _ _).alloc (Nat.le_refl _) _), h.own.below ((Below.refl _ _).alloc (Nat.le_refl _) _), grown_trans' h.grown (grown_below' ((Below.refl _ _).alloc (Nat.le_refl _) _))⟩, heap_alloc_new x _, h.grown.size, fun e => by have := (h.own.1.lt _ e).2; omega⟩
theorem Bo.set {w X : World} {p : Nat} {t : ByteArray} {st : Option Nat} {v : Value} {L : List OpV} {V : Nat} {o o' : OpV} (h : Bo w X p t st v L V o) (hp : p < w.heap.size) (i : Nat) (u : Value) (ho : (#[.int .i64 o.time, .int .i64 o.repl, .int .i64 o.kind, .int .i64 o.node, .int .i64 o.parent, .string o.name, .string o.value] : Array Value).setIfInBounds i u = #[.int .i64 o'.time, .int .i64 o'.repl, .int .i64 o'.kind, .int .i64 o'.node, .int .i64 o'.parent, .string o'.name, .string o'.value]) : Bo w (X.setCell ⟨V, i, none⟩ u) p t st v L V o' := by
  have hVp : p ≠ V := by have := h.far; omega
  refine ⟨⟨h.at0.rd.other hVp, ⟨ownsRow_setCell_other h.at0.own.1 h.own u, h.at0.own.2⟩, ?_⟩, ?_, h.far, h.own⟩
  · exact ⟨h.at0.grown.os, h.at0.grown.tape, h.at0.grown.output, by simpa using h.at0.grown.size, fun k hk hne => (heap_setCell_other X ⟨V, i, none⟩ k u (show k ≠ V by have := h.far; omega)).trans (h.at0.grown.block k hk hne)⟩
  · rw [set_block h.lies i u, ho]
theorem Bo.cells {w X : World} {p : Nat} {t : ByteArray} {st : Option Nat} {v : Value} {L : List OpV} {V : Nat} {o : OpV} (h : Bo w X p t st v L V o) : X.cell? ⟨V, 0, none⟩ = some (.int .i64 o.time) ∧ X.cell? ⟨V, 1, none⟩ = some (.int .i64 o.repl) ∧ X.cell? ⟨V, 2, none⟩ = some (.int .i64 o.kind) ∧ X.cell? ⟨V, 3, none⟩ = some (.int .i64 o.node) ∧ X.cell? ⟨V, 4, none⟩ = some (.int .i64 o.parent) ∧ X.cell? ⟨V, 5, none⟩ = some (.string o.name) ∧ X.cell? ⟨V, 6, none⟩ = some (.string o.value) := by
  have e := h.lies
  refine ⟨?_, ?_, ?_, ?_, ?_, ?_, ?_⟩ <;> simp [World.cell?, e]
theorem Bo.free {w X : World} {p : Nat} {t : ByteArray} {st : Option Nat} {v : Value} {L : List OpV} {V : Nat} {o : OpV} (h : Bo w X p t st v L V o) (i : Nat) : X.frozen? ⟨V, i, none⟩ = false := by
  have e := h.lies
  simp [World.frozen?, e]

set_option maxRecDepth 100000 in
set_option maxHeartbeats 1000000 in
theorem sRdOps (t : ByteArray) (p : Nat) (w : World) (ht : t.size ≤ 8000) (h : SRd w p t (some 0)) :
    Calls Try.prog 63 #[.pointer (some ⟨p, 0, none⟩)] w fun e w' => ∃ v, e = .returned v ∧ OwnAt w' w.heap.size 40 v (rAll t).1 ∧ SRd w' p t (endSt t) ∧ w.grownBy w' (some p) := by
  have hp := h.lt
  have h1 := fun (st : Option Nat) W (hW : SRd W p t st) => sRdNum t p st W ht hW
  have h2 := fun (st : Option Nat) W (hW : SRd W p t st) => sRdText t p st W ht hW
  have H1 := Hid.mk h1
  have H2 := Hid.mk h2
  have HR : Hid (SRd (w.alloc (.cells #[] 40)) p t (some 0)) := ⟨h.stays ((Below.refl _ _).alloc (Nat.le_refl _) _)⟩
  have HO : Hid (OwnAt (w.alloc (.cells #[] 40)) w.heap.size 40 (.slice (some ⟨w.heap.size, 0, none⟩) 0 0) []) := ⟨empty_row w, by simp⟩
  obtain ⟨⟨n, st1⟩, hr0⟩ : ∃ r, rN t (some 0) = r := ⟨_, rfl⟩
  have hA : rAll t = rLoop t n.toNat ([], st1) := by unfold rAll; rw [hr0]
  have HA := Hid.mk hA
  have Hr0 := Hid.mk hr0
  have hni : inI n := by
    cases st1 with
    | none => have := rN_none hr0; unfold inI; omega
    | some b => exact (rN_back hr0).choose_spec.2.1
  unfold inI at hni
  clear h1 h2 h hA hr0
  go_enter Try.func63, Try.ntmps63
  go_wp2_with fail
  refine (H1.out _ _ HR.out).mono ?_
  rintro e w1 ⟨rfl, hr1, hg1⟩
  rw [Hr0.out] at hr1 ⊢
  have hR1 : RdAt w w1 p t st1 (.slice (some ⟨w.heap.size, 0, none⟩) 0 0) [] := ⟨hr1, HO.out.grownP hg1 hp, grown_trans' (grown_below' ((Below.refl _ _).alloc (Nat.le_refl _) _)) hg1⟩
  have HR1 := Hid.mk hR1
  obtain ⟨a1, bad1, hl1, ha1, hst1⟩ := hr1
  obtain ⟨c0, c1, c2, f0, f1, f2⟩ := cellsR hl1
  have HL1 := Hid.mk hl1
  have Hst1 := Hid.mk hst1
  clear hl1 hst1 hR1 hg1
  by_cases hneg : n < 0
  · have HE : Hid (rAll t = ([], st1)) := ⟨by rw [HA.out, show n.toNat = 0 by omega]; rfl⟩
    have HRt : Hid (RdAt w (w1.setCell ⟨p, 2, none⟩ (.bool true)) p t none (.slice (some ⟨w.heap.size, 0, none⟩) 0 0) []) := ⟨HR1.out.call hp ⟨a1, true, set2 HL1.out, ha1, by simp⟩ (grown_set' _ _ _ _)⟩
    cases bad1
    · go_wp2
      refine wp_loop_rounds 1 ?_
      rw [rounds_succ]
      go_wp2
      go_ret
      refine ⟨_, rfl, ?_, ?_, HRt.out.grown⟩
      · rw [HE.out]; exact HRt.out.own
      · rw [end_neg Hr0.out hneg]; exact HRt.out.rd
    · go_wp2
      refine wp_loop_rounds 1 ?_
      rw [rounds_succ]
      go_wp2
      go_ret
      refine ⟨_, rfl, ?_, ?_, HRt.out.grown⟩
      · rw [HE.out]; exact HRt.out.own
      · rw [end_neg Hr0.out hneg]; exact HRt.out.rd
  · have HRt : Hid (RdAt w (w1.setCell ⟨p, 2, none⟩ (.bool bad1)) p t st1 (.slice (some ⟨w.heap.size, 0, none⟩) 0 0) []) := ⟨HR1.out.call hp ⟨a1, bad1, set2 HL1.out, ha1, Hst1.out⟩ (grown_set' _ _ _ _)⟩
    have Hneg := Hid.mk hneg
    have hn1 : 0 ≤ n := by omega
    have hdn : decide (n < 0) = false := decide_eq_false hneg
    obtain ⟨i0, hi, hzz⟩ := Option.map_eq_some_iff.1 infoOp
    simp only [Prod.mk.injEq] at hzz
    obtain ⟨hz0, hz1, hz2⟩ := hzz
    have HP0 : Hid (∀ a, st1 = some a → ([] : List OpV).length ≤ a ∧ a ≤ t.size) := ⟨fun a e => ⟨by simp, by
      have h2 := Hst1.out
      cases bad1
      · have h3 : st1 = some a1 := h2
        rw [h3] at e; cases e; exact ha1
      · have h3 : st1 = none := h2
        rw [h3] at e; cases e⟩⟩
    cases bad1
    all_goals (
      go_wp2
      clear c0 c1 c2 f0 f1 f2 HL1 HR1 HR HO hneg
      go_loopw [3, 5] (fun v kv wr => ∃ (kz : Int) (L : List OpV) (st : Option Nat), kv = .int .i64 kz ∧ 0 ≤ kz ∧ kz ≤ n ∧ RdAt w wr p t st v L ∧ rLoop t kz.toNat (L, st) = rLoop t n.toNat ([], st1) ∧ (∀ a, st = some a → L.length ≤ a ∧ a ≤ t.size) ∧ L.length ≤ t.size + 1) (fun _ kv _ => (intOf kv).toNat)
      case atStart => exact ⟨n, [], st1, rfl, hn1, by omega, HRt.out, rfl, HP0.out, by simp⟩
      case round =>
        obtain ⟨kz, L, st, rfl, hk0, hk1, hrd, hlp, hpl, hll⟩ := hrel
        have HRd := Hid.mk hrd
        have HLp := Hid.mk hlp
        have HPl := Hid.mk hpl
        obtain ⟨a, bad, hl1, ha, hst⟩ := hrd.rd
        obtain ⟨c0, c1, c2, f0, f1, f2⟩ := cellsR hl1
        have HSt := Hid.mk hst
        clear hrd hlp hpl hl1 hst HRt HP0
        by_cases hkz : kz = 0
        · subst hkz
          go_wp2
          go_ret
          have hE : rAll t = (L, st) := by rw [HA.out, ← HLp.out]; rfl
          refine ⟨_, rfl, ?_, ?_, HRd.out.grown⟩
          · rw [hE]; exact HRd.out.own
          · rw [end_pos Hr0.out (by have := Hneg.out; omega), hE]; exact HRd.out.rd
        · have hkp : 0 < kz := by omega
          cases bad
          · have hs : st = some a := HSt.out
            subst hs
            have hbd := HPl.out a rfl
            have hL9 : L.length ≤ 8000 := by omega
            obtain ⟨⟨n0, s0⟩, e0⟩ : ∃ r, rN t (some a) = r := ⟨_, rfl⟩
            obtain ⟨⟨n1, s1⟩, e1⟩ : ∃ r, rN t s0 = r := ⟨_, rfl⟩
            obtain ⟨⟨n2, s2⟩, e2⟩ : ∃ r, rN t s1 = r := ⟨_, rfl⟩
            obtain ⟨⟨n3, s3⟩, e3⟩ : ∃ r, rN t s2 = r := ⟨_, rfl⟩
            obtain ⟨⟨n4, s4⟩, e4⟩ : ∃ r, rN t s3 = r := ⟨_, rfl⟩
            obtain ⟨⟨t5, s5⟩, e5⟩ : ∃ r, rT t s4 = r := ⟨_, rfl⟩
            obtain ⟨⟨t6, s6⟩, e6⟩ : ∃ r, rT t s5 = r := ⟨_, rfl⟩
            have hop : rOp t (some a) = (⟨n0, n1, n2, n3, n4, t5, t6⟩, s6) := by unfold rOp; simp only [e0, e1, e2, e3, e4, e5, e6]
            have HOp := Hid.mk hop
            have C0 := H1.out (some a) _ HRd.out.rd
            rw [e0] at C0
            have C0 := Hid.mk C0
            have e1 := Hid.mk e1
            have e2 := Hid.mk e2
            have e3 := Hid.mk e3
            have e4 := Hid.mk e4
            have e5 := Hid.mk e5
            have e6 := Hid.mk e6
            clear e0 hop
            go_wp2_with (first | (go_at_call 111; refine C0.out.mono ?_; rintro e x1 ⟨rfl, hr1, hg1⟩; have HB1 := Hid.mk (Bo.start (HRd.out.call hp hr1 hg1) ⟨n0, 0, 0, 0, 0, ⟨#[]⟩, ⟨#[]⟩⟩); have C1 := H1.out s0 _ HB1.out.at0.rd; rw [e1.out] at C1; have C1 := Hid.mk C1; clear C0 hr1 hg1 c0 c1 c2 f0 f1 f2) | (go_at_call 111; refine C1.out.mono ?_; rintro e x2 ⟨rfl, hr1, hg1⟩; have HX2 := Hid.mk (HB1.out.call hp hr1 hg1); obtain ⟨k0, k1, k2, k3, k4, k5, k6⟩ := HX2.out.cells; have g0 := HX2.out.free 1; have HB2 := Hid.mk (HX2.out.set (o' := ⟨n0, n1, 0, 0, 0, ⟨#[]⟩, ⟨#[]⟩⟩) hp 1 (.int .i64 n1) rfl); have C2 := H1.out s1 _ HB2.out.at0.rd; rw [e2.out] at C2; have C2 := Hid.mk C2; clear C1 hr1 hg1) | (go_at_call 111; refine C2.out.mono ?_; rintro e x3 ⟨rfl, hr1, hg1⟩; have HX3 := Hid.mk (HB2.out.call hp hr1 hg1); clear k0 k1 k2 k3 k4 k5 k6 g0; obtain ⟨k0, k1, k2, k3, k4, k5, k6⟩ := HX3.out.cells; have g0 := HX3.out.free 2; have HB3 := Hid.mk (HX3.out.set (o' := ⟨n0, n1, n2, 0, 0, ⟨#[]⟩, ⟨#[]⟩⟩) hp 2 (.int .i64 n2) rfl); have C3 := H1.out s2 _ HB3.out.at0.rd; rw [e3.out] at C3; have C3 := Hid.mk C3; clear C2 hr1 hg1) | (go_at_call 111; refine C3.out.mono ?_; rintro e x4 ⟨rfl, hr1, hg1⟩; have HX4 := Hid.mk (HB3.out.call hp hr1 hg1); clear k0 k1 k2 k3 k4 k5 k6 g0; obtain ⟨k0, k1, k2, k3, k4, k5, k6⟩ := HX4.out.cells; have g0 := HX4.out.free 3; have HB4 := Hid.mk (HX4.out.set (o' := ⟨n0, n1, n2, n3, 0, ⟨#[]⟩, ⟨#[]⟩⟩) hp 3 (.int .i64 n3) rfl); have C4 := H1.out s3 _ HB4.out.at0.rd; rw [e4.out] at C4; have C4 := Hid.mk C4; clear C3 hr1 hg1) | (go_at_call 111; refine C4.out.mono ?_; rintro e x5 ⟨rfl, hr1, hg1⟩; have HX5 := Hid.mk (HB4.out.call hp hr1 hg1); clear k0 k1 k2 k3 k4 k5 k6 g0; obtain ⟨k0, k1, k2, k3, k4, k5, k6⟩ := HX5.out.cells; have g0 := HX5.out.free 4; have HB5 := Hid.mk (HX5.out.set (o' := ⟨n0, n1, n2, n3, n4, ⟨#[]⟩, ⟨#[]⟩⟩) hp 4 (.int .i64 n4) rfl); have C5 := H2.out s4 _ HB5.out.at0.rd; rw [e5.out] at C5; have C5 := Hid.mk C5; clear C4 hr1 hg1) | (go_at_call 112; refine C5.out.mono ?_; rintro e x6 ⟨rfl, hr1, hg1⟩; have HX6 := Hid.mk (HB5.out.call hp hr1 hg1); clear k0 k1 k2 k3 k4 k5 k6 g0; obtain ⟨k0, k1, k2, k3, k4, k5, k6⟩ := HX6.out.cells; have g0 := HX6.out.free 5; have HB6 := Hid.mk (HX6.out.set (o' := ⟨n0, n1, n2, n3, n4, t5, ⟨#[]⟩⟩) hp 5 (.string t5) rfl); have C6 := H2.out s5 _ HB6.out.at0.rd; rw [e6.out] at C6; have C6 := Hid.mk C6; clear C5 hr1 hg1) | (go_at_call 112; refine C6.out.mono ?_; rintro e x7 ⟨rfl, hr1, hg1⟩; have HX7 := Hid.mk (HB6.out.call hp hr1 hg1); clear k0 k1 k2 k3 k4 k5 k6 g0; obtain ⟨k0, k1, k2, k3, k4, k5, k6⟩ := HX7.out.cells; have g0 := HX7.out.free 6; have HB7 := Hid.mk (HX7.out.set (o' := ⟨n0, n1, n2, n3, n4, t5, t6⟩) hp 6 (.string t6) rfl); clear C6 hr1 hg1) | (at_builtin; refine wpList_append_own _ rfl _ _ 23 rfl w.heap.size 40 i0 _ 7 72 Try.underlying23 hi hz0 hz1 hz2 rfl (by decide) _ L.length (flat L) rfl (HB7.out.at0.own.1.alloc _) ⟨x7.heap.size, 0, none⟩ 1 1 (OpV.cells ⟨n0, n1, n2, n3, n4, t5, t6⟩) rfl rfl ?e1 (op_one _) ?e3 ?e4 ?e5 ?_))
            case e1 =>
              intro j u hu
              rw [Addr.add_lit, Nat.zero_add, World.cell?_alloc_at _ _ _ _ (by simp)]
              simpa [OpV.cells] using hu
            case e3 => unfold maxLen; omega
            case e4 => omega
            case e5 => exact Nat.le_trans HB7.out.at0.grown.size (by simp)
            intro v' y hown hgr hne
            have hal := (Below.refl (x7.setCell ⟨x1.heap.size, 6, none⟩ (.string t6)).heap.size (x7.setCell ⟨x1.heap.size, 6, none⟩ (.string t6))).alloc (Nat.le_refl _) (.cells #[.int .i64 n0, .int .i64 n1, .int .i64 n2, .int .i64 n3, .int .i64 n4, .string t5, .string t6] 40)
            have hRA := HB7.out.at0
            have hRB : RdAt w ((x7.setCell ⟨x1.heap.size, 6, none⟩ (.string t6)).alloc (.cells #[.int .i64 n0, .int .i64 n1, .int .i64 n2, .int .i64 n3, .int .i64 n4, .string t5, .string t6] 40)) p t s6 u3 L := ⟨hRA.rd.stays hal, hRA.own.below hal, grown_trans' hRA.grown (grown_below' hal)⟩
            have HNew := Hid.mk (hRB.more hp hgr hown hne)
            clear hown hgr hne hal hRA hRB HB7 HX7 k0 k1 k2 k3 k4 k5 k6 g0
            go_wp2
            go_roundw
            case rel =>
              refine ⟨kz - 1, L ++ [⟨n0, n1, n2, n3, n4, t5, t6⟩], s6, by go_num, by omega, by omega, HNew.out, ?_, fun b hb => ?_, by simp; omega⟩
              · rw [← HLp.out, show kz.toNat = (kz - 1).toNat + 1 by omega]
                exact (rLoop_more HOp.out).symm
              · have h9 := HOp.out
                rw [hb] at h9
                have h8 := rOp_adv h9
                rw [List.length_append, List.length_singleton]
                omega
            case measure => simp [intOf]; omega
          · have hs : st = none := HSt.out
            subst hs
            go_wp2
            go_ret
            have hE : rAll t = (L, none) := by rw [HA.out, ← HLp.out, rLoop_none]
            refine ⟨_, rfl, ?_, ?_, HRd.out.grown⟩
            · rw [hE]; exact HRd.out.own
            · rw [end_pos Hr0.out (by have := Hneg.out; omega), hE]; exact HRd.out.rd)
end Go.Proofs.Ytlphcbgeagmopaa.OpR
