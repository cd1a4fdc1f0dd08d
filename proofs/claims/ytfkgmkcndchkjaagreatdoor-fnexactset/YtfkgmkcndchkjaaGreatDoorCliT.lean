/- Proves what the harness does with a client's rows: they are marked, and the marks are looked at. -/
import Derived.Test.YtfkgmkcndchkjaaGreatDoorCliH
import Derived.Test.YtfkgmkcndchkjaaGreatDoorHeldS
import Derived.Test.YtfkgmkcndchkjaaGreatDoorOutW
namespace Go.Proofs.YtfkgmkcndchkjaaGreatDoor.OpR
open Go.ChangeShapes Go.WideShapes Go.ChangeAt Go.RowKit
set_option linter.unusedVariables false

theorem six_new (w : World) (T : TypeId) (v0 v1 v2 v3 v4 v5 : Value) : Six (w.alloc (.cells #[v0, v1, v2, v3, v4, v5] T)) w.heap.size T v0 v1 v2 v3 v4 v5 := heap_alloc_new w _
/-- What leaves all blocks but those of two rows. -/
structure Marked (la oa : Option Addr) (w w' : World) : Prop where
  os : w'.os = w.os
  tape : w'.tape = w.tape
  output : w'.output = w.output
  size : w.heap.size ≤ w'.heap.size
  block : ∀ k, k < w.heap.size → (∀ a, la = some a → k ≠ a.block) → (∀ a, oa = some a → k ≠ a.block) → w'.heap[k]? = w.heap[k]?
theorem Marked.below {la oa : Option Addr} {w w' : World} {B : Nat} {a : World} (h : Marked la oa w w') (hb : Below B a w) (hB : B ≤ w.heap.size) (hl : ∀ x, la = some x → B ≤ x.block) (ho : ∀ x, oa = some x → B ≤ x.block) : Below B a w' :=
  ⟨h.os.trans hb.os, h.tape.trans hb.tape, h.output.trans hb.output, Nat.le_trans hb.size h.size, fun k hk => (h.block k (by omega) (fun x e => by have := hl x e; omega) (fun x e => by have := ho x e; omega)).trans (hb.block k hk)⟩
/-- Both rows of a client may be marked. -/
structure MarkC (w : World) (c : CliV) (la oa : Option Addr) : Prop where
  log : MarkOk w la c.log.length
  out : MarkOk w oa c.out.length
  apart : ∀ x y, la = some x → oa = some y → x.block ≠ y.block
theorem MarkC.below {w w' : World} {c : CliV} {la oa : Option Addr} (h : MarkC w c la oa) (hb : Below w.heap.size w w') : MarkC w' c la oa := ⟨h.log.below hb, h.out.below hb, h.apart⟩
theorem OpsAt.block_ {w w' : World} {ao : Option Addr} {l : List OpV} (h : OpsAt w ao l) (hs : w.heap.size ≤ w'.heap.size) (hb : ∀ a, ao = some a → w'.heap[a.block]? = w.heap[a.block]?) : OpsAt w' ao l := fun j hj => by
  obtain ⟨b, off, e, hlt, ho⟩ := h j hj
  exact ⟨b, off, e, Nat.lt_of_lt_of_le hlt hs, ho.block (hb _ e)⟩
theorem okM_grown {w w' : World} {ag : Option Addr} {n : Nat} (h : MarkOk w ag n) {row : Option Nat} (hg : w.grownBy w' row) (hr : ∀ x, ag = some x → row ≠ some x.block) : MarkOk w' ag n := by
  rcases h with ⟨g, N, rfl, hN, cs, e, hn⟩ | h
  · refine .inl ⟨g, N, rfl, hN, cs, ?_, hn⟩
    have hlt : g < w.heap.size := (Array.getElem?_eq_some_iff.1 e).1
    exact (hg.block g hlt (fun e2 => hr _ rfl e2.symm)).trans e
  · exact .inr h
theorem ne_map {a : Option Addr} {V : Nat} (h : ∀ x, a = some x → x.block ≠ V) : a.map (·.block) ≠ some V := by
  cases a with
  | none => simp
  | some x => simpa using h x rfl
theorem MarkOk.lt {w : World} {ao : Option Addr} {n : Nat} (h : MarkOk w ao n) : ∀ a, ao = some a → a.block < w.heap.size := by
  rintro a rfl
  rcases h with ⟨g, N, e, _, hr⟩ | ⟨e, _⟩
  · cases e; exact hr.lt
  · cases e
set_option maxRecDepth 100000 in
set_option maxHeartbeats 400000 in
theorem markClient_any (c : CliV) (la oa : Option Addr) (lc oc k : Nat) (w : World) (hl : c.log.length ≤ 1048576) (ho : c.out.length ≤ 1048576) (hk : 0 < k) (hk2 : k ≤ 1048576) (hM : MarkC w c la oa) :
    Calls Tryz.prog 15 #[c.agg la lc oa oc, .int .i64 (k : Int)] w fun e w' => e = .returned (.int .i64 ((k + 7 * c.log.length + 7 * c.out.length : Nat) : Int)) ∧ OpsAt w' la (marks k c.log.length) ∧ OpsAt w' oa (marks (k + 7 * c.log.length) c.out.length) ∧ Marked la oa w w' := by
  have hB0 := CliBox.new w 28 c la lc oa oc
  have hM0 := hM.below hB0.2
  have h1 := mark_any la c.log.length lc k _ hl hk (by omega) hM0.log
  have HB0 := hide hB0
  have HM0 := hide hM0
  have HM := hide hM
  obtain ⟨K, hK⟩ : ∃ K : Nat, K = k + 7 * c.log.length := ⟨_, rfl⟩
  rw [← hK] at h1 ⊢
  have hK2 : K ≤ 10000000 := by omega
  have hK0 : 0 < K := by omega
  have HK := hide hK
  have H1 := hide h1
  have hal : ∀ x, la = some x → x.block < w.heap.size := hM.log.lt
  have hao : ∀ x, oa = some x → x.block < w.heap.size := hM.out.lt
  have HAl := hide hal
  have HAo := hide hao
  obtain ⟨p0, p1, p2, p3, p4, p5⟩ := hB0.cells
  have M1 : Hid True := ⟨trivial⟩
  unfold CliV.agg
  clear hB0 hM0 hM h1 hK hal hao
  go_enter Tryz.func15, Tryz.ntmps15
  go_wp2_with (first | (go_at_call 50; clear M1; (refine H1.out.mono ?_); rintro e w1 ⟨rfl, hm1, _, hg1⟩; have HG1 := hide hg1; have HA1 := hide hm1; have hB1 : Six w1 w.heap.size 28 (.int .i64 c.repl) (.int .i64 c.clock) (.slice la c.log.length lc) (.int .i64 c.acked) (.slice oa c.out.length oc) (.int .i64 c.got) := (hg1.block _ (Array.getElem?_eq_some_iff.1 HB0.out.1).1 (fun e => by cases hla : la with | none => rw [hla] at e; simp at e | some x => have := HAl.out x hla; rw [hla] at e; simp at e; omega)).trans HB0.out.1; have HB1 := hide hB1; have hmo : MarkOk w1 oa c.out.length := okM_grown HM0.out.out hg1 (fun x e => ne_map (fun y ey => HM.out.apart y x ey e)); have h2 := mark_any oa c.out.length oc K w1 ho hK0 (by omega) hmo; have H2 := hide h2; clear p0 p1 p2 p3 p4 p5 hg1 hm1 hmo h2; obtain ⟨p0, p1, p2, p3, p4, p5, _⟩ := hB1.cells; clear hB1) | (go_at_call 50; (refine H2.out.mono ?_); rintro e w2 ⟨rfl, hm2, _, hg2⟩))
  go_ret
  have hg1 := HG1.out
  have hb0 := HB0.out.2
  refine ⟨rfl, HA1.out.block_ hg2.size (fun x e => hg2.block _ ?_ (fun e2 => ?_)), hm2, ⟨hg2.os.trans (hg1.os.trans hb0.os), hg2.tape.trans (hg1.tape.trans hb0.tape), hg2.output.trans (hg1.output.trans hb0.output), Nat.le_trans hb0.size (Nat.le_trans hg1.size hg2.size), fun j hj h1 h2 => ?_⟩⟩
  · have := HAl.out x e
    have := hb0.size
    have := hg1.size
    omega
  · cases hoa : oa with
    | none => rw [hoa] at e2; simp at e2
    | some y => rw [hoa] at e2; simp at e2; exact HM.out.apart x y e hoa e2
  · rw [hg2.block j (by have := hb0.size; have := hg1.size; omega) (fun e => by cases hoa : oa with | none => rw [hoa] at e; simp at e | some y => rw [hoa] at e; simp at e; exact h2 y hoa e),
      hg1.block j (by have := hb0.size; omega) (fun e => by cases hla : la with | none => rw [hla] at e; simp at e | some y => rw [hla] at e; simp at e; exact h1 y hla e)]
    exact hb0.block j hj
set_option maxRecDepth 100000 in
set_option maxHeartbeats 400000 in
theorem heldClient_any (c : CliV) (la oa : Option Addr) (lc oc : Nat) (w : World) (hl : c.log.length ≤ 1048576) (ho : c.out.length ≤ 1048576) (hA : OpsAt w la (marks 1 c.log.length)) (hC : OpsAt w oa (marks (1 + 7 * c.log.length) c.out.length)) :
    Calls Tryz.prog 51 #[c.agg la lc oa oc, .int .i64 1] w fun e w' => e = .returned (.int .i64 ((1 + 7 * c.log.length + 7 * c.out.length : Nat) : Int)) ∧ Below w.heap.size w w' := by
  have HB0 := hide (CliBox.new w 28 c la lc oa oc)
  obtain ⟨K, hK⟩ : ∃ K : Nat, K = 1 + 7 * c.log.length := ⟨_, rfl⟩
  rw [← hK] at hC ⊢
  have h1 := fun W (hW : Below w.heap.size w W) => heldOpS_any c.log.length 1 lc la W hl (by omega) (by omega) (hA.stays hW)
  have h2 := fun W (hW : Below w.heap.size w W) => heldOpS_any c.out.length K oc oa W ho (by omega) (by omega) (hC.stays hW)
  rw [← hK] at h1
  rw [show ((1 : Nat) : Int) = 1 from rfl] at h1
  have hK2 : K ≤ 10000000 := by omega
  have hK0 : (0 : Int) ≤ (K : Int) := by omega
  have H1 := hide h1
  have H2 := hide h2
  obtain ⟨p0, p1, p2, p3, p4, p5⟩ := HB0.out.cells
  have M1 : Hid True := ⟨trivial⟩
  have hneg : ¬ ((K : Int) < 0) := by omega
  unfold CliV.agg
  clear h1 h2 hK hA hC
  go_enter Tryz.func51, Tryz.ntmps51
  go_wp2_with (first | (go_at_call 83; clear M1; (refine (H1.out _ HB0.out.2).mono ?_); rintro e w1 ⟨rfl, hb1⟩; have HB1 := hide (HB0.out.step hb1); clear p0 p1 p2 p3 p4 p5 hb1; obtain ⟨p0, p1, p2, p3, p4, p5⟩ := HB1.out.cells) | (go_at_call 83; (refine (H2.out _ HB1.out.2).mono ?_); rintro e w2 ⟨rfl, hb2⟩; have HB2 := hide (HB1.out.step hb2)))
  all_goals (try (exfalso; omega))
  all_goals (
    go_ret
    exact ⟨rfl, HB2.out.2⟩)
end Go.Proofs.YtfkgmkcndchkjaaGreatDoor.OpR
