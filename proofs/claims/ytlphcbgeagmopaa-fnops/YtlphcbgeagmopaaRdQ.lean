/- Proves what impl's reader tells of ops. -/
import Derived.Test.YtlphcbgeagmopaaRdP
import Derived.Test.YtlphcbgeagmopaaSortX
namespace Go.Proofs.Ytlphcbgeagmopaa.OpR
open Go.ChangeShapes Go.WideShapes Go.ChangeAt Go.RowKit Go.ChangeMaps
set_option linter.unusedVariables false

theorem owns_grown {w w' : World} {base p : Nat} {T : TypeId} {v : Value} {n : Nat} {xs : List Value} (h : w.ownsRow base T 7 v n xs) (hg : w.grownBy w' (some p)) (hp : p < base) : w'.ownsRow base T 7 v n xs :=
  h.kept hg (by
    cases hv : v.ownBlock with
    | none => exact .inl rfl
    | some k => exact .inr (fun e => by cases e; have := (h.lt p hv).1; omega))
/-- Where impl's reading of ops stands. -/
structure IAt (w X : World) (p : Nat) (t : ByteArray) (st : Option Nat) (v : Value) (L : List OpV) : Prop where
  rd : IRd X p t st
  own : X.ownsRow w.heap.size 40 7 v L.length (flat L)
  grown : w.grownBy X (some p)
theorem IAt.call {w X Y : World} {p : Nat} {t : ByteArray} {st st' : Option Nat} {v : Value} {L : List OpV} (h : IAt w X p t st v L) (hp : p < w.heap.size) (hr : IRd Y p t st') (hg : X.grownBy Y (some p)) : IAt w Y p t st' v L :=
  ⟨hr, owns_grown h.own hg hp, grown_trans' h.grown hg⟩
theorem IAt.below {w X Y : World} {p : Nat} {t : ByteArray} {st : Option Nat} {v : Value} {L : List OpV} (h : IAt w X p t st v L) (hb : Below X.heap.size X Y) : IAt w Y p t st v L :=
  ⟨h.rd.stays hb, owns_stays h.own hb, grown_trans' h.grown (grown_below' hb)⟩
theorem IAt.more {w W y : World} {p : Nat} {t : ByteArray} {st : Option Nat} {v v' : Value} {L : List OpV} {o : OpV} (h : IAt w W p t st v L) (hp : p < w.heap.size) (hg : W.grownBy y v.ownBlock) (hown : y.ownsRow w.heap.size 40 7 v' (L.length + 1) (flat L ++ o.cells)) : IAt w y p t st v' (L ++ [o]) := by
  refine ⟨h.rd.grownR hg (fun e => by have := (h.own.lt p e).1; omega), ?_, ?_⟩
  · have e1 : (L ++ [o]).length = L.length + 1 := by simp
    have e2 : flat (L ++ [o]) = flat L ++ o.cells := by rw [flat_app]; simp [flat]
    rw [e1, e2]; exact hown
  · exact ⟨hg.os.trans h.grown.os, hg.tape.trans h.grown.tape, hg.output.trans h.grown.output, Nat.le_trans h.grown.size hg.size, fun k hk hn => (hg.block k (Nat.lt_of_lt_of_le hk h.grown.size) (fun e => by have := (h.own.lt k e.symm).1; omega)).trans (h.grown.block k hk hn)⟩

set_option maxRecDepth 100000 in
set_option maxHeartbeats 1000000 in
theorem iRdOps (t : ByteArray) (p : Nat) (w : World) (ht : t.size ≤ 8000) (h : IRd w p t (some 0)) :
    Calls Try.prog 60 #[.pointer (some ⟨p, 0, none⟩)] w fun e w' => ∃ v, e = .returned v ∧ w'.ownsRow w.heap.size 40 7 v (rAll t).1.length (flat (rAll t).1) ∧ w.grownBy w' (some p) := by
  have hp := h.lt
  have h1 := iRdNum t p (some 0) w ht h
  have h2 := fun (a : Nat) W (hW : IRd W p t (some a)) => iRdOp t p a W ht hW
  have H2 := Hid.mk h2
  obtain ⟨⟨n, st1⟩, hr0⟩ : ∃ r, rN t (some 0) = r := ⟨_, rfl⟩
  have hA : rAll t = rLoop t n.toNat ([], st1) := by unfold rAll; rw [hr0]
  have HA := Hid.mk hA
  have hni : inI n := by
    cases st1 with
    | none => have := rN_none hr0; unfold inI; omega
    | some b => exact (rN_back hr0).choose_spec.2.1
  unfold inI at hni
  rw [hr0] at h1
  have HP0 : Hid (∀ a, st1 = some a → ([] : List OpV).length ≤ a ∧ a ≤ t.size) := ⟨fun a e => ⟨by simp, by
    rw [e] at hr0
    obtain ⟨_, _, _, _, _, h3⟩ := rN_back hr0
    exact h3⟩⟩
  obtain ⟨i0, hi, hzz⟩ := Option.map_eq_some_iff.1 infoOp
  simp only [Prod.mk.injEq] at hzz
  obtain ⟨hz0, hz1, hz2⟩ := hzz
  clear h2 h hA hr0
  go_enter Try.func60, Try.ntmps60
  go_wp2_with (first | (go_at_call 109; refine h1.mono ?_; rintro e w1 ⟨rfl, hr1, hg1⟩; have HR1 : Hid (IAt w w1 p t st1 (.slice none 0 0) []) := ⟨⟨hr1, World.ownsRow_nil w1 _ _ _, hg1⟩⟩; clear h1 hr1 hg1))
  go_loopw [3] (fun v wr => ∃ (L : List OpV) (st : Option Nat), IAt w wr p t st v L ∧ L.length ≤ n.toNat ∧ rLoop t (n.toNat - L.length) (L, st) = rLoop t n.toNat ([], st1) ∧ (∀ a, st = some a → L.length ≤ a ∧ a ≤ t.size) ∧ L.length ≤ t.size + 1) (fun v _ => 9000 - sliceLen v)
  case atStart => exact ⟨[], st1, HR1.out, by simp, rfl, HP0.out, by simp⟩
  case round =>
    obtain ⟨L, st, hI, hLn, hlp, hpl, hll⟩ := hrel
    have HI := Hid.mk hI
    have HLp := Hid.mk hlp
    have HPl := Hid.mk hpl
    obtain ⟨ao, c, rfl, hcc, hAt⟩ := owns_at hI.own
    obtain ⟨a, err, hl, ha, hst⟩ := hI.rd
    obtain ⟨c0, c1, c2, f0, f1, f2⟩ := cellsR hl
    clear hI hlp hpl hAt hl HR1 HP0
    rcases hst with ⟨rfl, rfl⟩ | ⟨cc, rfl, rfl⟩
    · by_cases hlt : (L.length : Int) < n
      · have hbd := HPl.out a rfl
        have hL9 : L.length ≤ 8000 := by omega
        obtain ⟨⟨o, s6⟩, hop⟩ : ∃ r, rOp t (some a) = r := ⟨_, rfl⟩
        have HOp := Hid.mk hop
        have C0 := H2.out a _ HI.out.rd
        rw [hop] at C0
        unfold OpV.agg at C0
        have C0 := Hid.mk C0
        clear hop
        go_wp2_with (first | (go_at_call 110; refine C0.out.mono ?_; rintro e x1 ⟨rfl, hr1, hg1⟩; have HX1 := Hid.mk (HI.out.call hp hr1 hg1); clear C0 hr1 hg1 c0 c1 c2 f0 f1 f2) | (at_builtin; refine wpList_append_own _ rfl _ _ 23 rfl w.heap.size 40 i0 _ 7 72 Try.underlying23 hi hz0 hz1 hz2 rfl (by decide) _ L.length (flat L) rfl (HX1.out.own.alloc _) ⟨x1.heap.size, 0, none⟩ 1 1 o.cells rfl rfl ?e1 (op_one _) ?e3 ?e4 ?e5 ?_))
        case e1 =>
          intro j u hu
          rw [Addr.add_lit, Nat.zero_add, World.cell?_alloc_at _ _ _ _ rfl]
          simpa [OpV.cells] using hu
        case e3 => unfold maxLen; omega
        case e4 => omega
        case e5 => exact Nat.le_trans HX1.out.grown.size (by simp)
        intro v' y hown hgr hne
        have hI2 := HX1.out.below ((Below.refl _ _).alloc (Nat.le_refl _) (.cells #[.int .i64 o.time, .int .i64 o.repl, .int .i64 o.kind, .int .i64 o.node, .int .i64 o.parent, .string o.name, .string o.value] 40))
        have hI3 := hI2.more hp hgr hown
        have HI3 := Hid.mk hI3
        obtain ⟨ao', c', rfl, _, _⟩ := owns_at hI3.own
        clear hown hgr hne hI2 hI3
        go_wp2
        go_roundw
        case rel =>
          refine ⟨L ++ [o], s6, HI3.out, by rw [List.length_append, List.length_singleton]; omega, ?_, fun b hb => ?_, by rw [List.length_append, List.length_singleton]; omega⟩
          · rw [← HLp.out, List.length_append, List.length_singleton, show n.toNat - L.length = (n.toNat - (L.length + 1)) + 1 by omega]
            exact (rLoop_more HOp.out).symm
          · have h9 := HOp.out
            rw [hb] at h9
            have h8 := rOp_adv h9
            rw [List.length_append, List.length_singleton]
            omega
        case measure => simp [sliceLen]; omega
      · go_wp2
        go_ret
        have hE : rAll t = (L, some a) := by
          rw [HA.out, ← HLp.out, show n.toNat - L.length = 0 by omega]; rfl
        refine ⟨_, rfl, ?_, HI.out.grown⟩
        rw [hE]; exact HI.out.own
    · unfold wrongV at c2
      go_wp2
      go_ret
      have hE : rAll t = (L, none) := by rw [HA.out, ← HLp.out, rLoop_none]
      refine ⟨_, rfl, ?_, HI.out.grown⟩
      rw [hE]; exact HI.out.own
end Go.Proofs.Ytlphcbgeagmopaa.OpR
