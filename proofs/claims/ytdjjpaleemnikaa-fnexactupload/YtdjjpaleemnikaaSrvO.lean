/- What a server tells, in variables of the harness: compared, marked, held. -/
import Derived.Test.YtdjjpaleemnikaaSrvH
import Derived.Test.YtdjjpaleemnikaaSnM
import Derived.Test.YtdjjpaleemnikaaHeldS
import Derived.Test.YtdjjpaleemnikaaOutW
namespace Go.Proofs.Ytdjjpaleemnikaa.OpR
open Go.ChangeShapes Go.WideShapes Go.ChangeAt Go.RowKit
set_option linter.unusedVariables false

structure SOutV where
  srv : SrvV
  ops : List OpV
  many : Int
  code : Int
def SOutV.ill (many code : Int) : SOutV := ⟨SrvV.zero, [], many, code⟩
def SOutV.agg (x : SOutV) (la : Option Addr) (lc : Nat) (sa : Option Addr) (sc : Nat) (oa : Option Addr) (oc : Nat) : Value := .agg #[.slice la x.srv.ops.length lc, .slice sa x.srv.seen.length sc, .slice oa x.ops.length oc, .int .i64 x.many, .int .i64 x.code]
/-- What is told, in a variable. -/
def Fiv (W : World) (V : Nat) (x : SOutV) (la : Option Addr) (lc : Nat) (sa : Option Addr) (sc : Nat) (oa : Option Addr) (oc : Nat) : Prop :=
  W.heap[V]? = some (.cells #[.slice la x.srv.ops.length lc, .slice sa x.srv.seen.length sc, .slice oa x.ops.length oc, .int .i64 x.many, .int .i64 x.code] 33 (0, 0))
section
variable {W W' : World} {V : Nat} {x : SOutV} {la : Option Addr} {lc : Nat} {sa : Option Addr} {sc : Nat} {oa : Option Addr} {oc : Nat}
theorem Fiv.new (W : World) (x : SOutV) (la : Option Addr) (lc : Nat) (sa : Option Addr) (sc : Nat) (oa : Option Addr) (oc : Nat) : Fiv (W.alloc (.cells #[.slice la x.srv.ops.length lc, .slice sa x.srv.seen.length sc, .slice oa x.ops.length oc, .int .i64 x.many, .int .i64 x.code] 33)) W.heap.size x la lc sa sc oa oc := heap_alloc_new W _
theorem Fiv.lt (h : Fiv W V x la lc sa sc oa oc) : V < W.heap.size := (Array.getElem?_eq_some_iff.1 h).1
theorem Fiv.keep (h : Fiv W V x la lc sa sc oa oc) (e : W'.heap[V]? = W.heap[V]?) : Fiv W' V x la lc sa sc oa oc := e.trans h
theorem Fiv.step (h : Fiv W V x la lc sa sc oa oc) (hb : Below W.heap.size W W') : Fiv W' V x la lc sa sc oa oc := h.keep (hb.block _ h.lt)
theorem Fiv.cells (h : Fiv W V x la lc sa sc oa oc) : W.cell? ⟨V, 0, none⟩ = some (.slice la x.srv.ops.length lc) ∧ W.cell? ⟨V, 1, none⟩ = some (.slice sa x.srv.seen.length sc) ∧ W.cell? ⟨V, 2, none⟩ = some (.slice oa x.ops.length oc) ∧ W.cell? ⟨V, 3, none⟩ = some (.int .i64 x.many) ∧ W.cell? ⟨V, 4, none⟩ = some (.int .i64 x.code) := by
  unfold Fiv at h
  refine ⟨?_, ?_, ?_, ?_, ?_⟩ <;> simp [World.cell?, h]
end
/-- What leaves all blocks but those of some rows. -/
structure MarkedL (rs : List (Option Addr)) (w w' : World) : Prop where
  os : w'.os = w.os
  tape : w'.tape = w.tape
  output : w'.output = w.output
  size : w.heap.size ≤ w'.heap.size
  block : ∀ k, k < w.heap.size → (∀ a ∈ rs, ∀ x, a = some x → k ≠ x.block) → w'.heap[k]? = w.heap[k]?
theorem MarkedL.of_below {w w' : World} (h : Below w.heap.size w w') : MarkedL [] w w' := ⟨h.os, h.tape, h.output, h.size, fun k hk _ => h.block k hk⟩
theorem MarkedL.of_grown {w w' : World} {a : Option Addr} (h : w.grownBy w' (a.map (·.block))) : MarkedL [a] w w' :=
  ⟨h.os, h.tape, h.output, h.size, fun k hk h1 => h.block k hk fun e => by
    cases a with
    | none => cases e
    | some x => exact h1 (some x) (by simp) x rfl (by simpa using e)⟩
theorem MarkedL.trans {rs bs : List (Option Addr)} {a b c : World} (h : MarkedL rs a b) (k : MarkedL bs b c) : MarkedL (rs ++ bs) a c :=
  ⟨k.os.trans h.os, k.tape.trans h.tape, k.output.trans h.output, Nat.le_trans h.size k.size, fun i hi hn => (k.block i (Nat.lt_of_lt_of_le hi h.size) (fun a ha => hn a (List.mem_append.2 (.inr ha)))).trans (h.block i hi (fun a ha => hn a (List.mem_append.2 (.inl ha))))⟩
theorem MarkedL.below {rs : List (Option Addr)} {w w' : World} (h : MarkedL rs w w') {B : Nat} {a : World} (hb : Below B a w) (hB : B ≤ w.heap.size) (hl : ∀ b ∈ rs, ∀ x, b = some x → B ≤ x.block) : Below B a w' :=
  ⟨h.os.trans hb.os, h.tape.trans hb.tape, h.output.trans hb.output, Nat.le_trans hb.size h.size, fun k hk => (h.block k (by omega) (fun b hb x e => by have := hl b hb x e; omega)).trans (hb.block k hk)⟩
/-- None of some rows lies in the block of another. -/
def ApartL (rs : List (Option Addr)) (ao : Option Addr) : Prop := ∀ b ∈ rs, ∀ x y, b = some x → ao = some y → y.block ≠ x.block
theorem ApartL.nil (ao : Option Addr) : ApartL [] ao := fun b hb => absurd hb (by simp)
theorem ApartL.one {a ao : Option Addr} (h : ∀ x y, a = some x → ao = some y → x.block ≠ y.block) : ApartL [a] ao := fun b hb x y e1 e2 => by
  obtain rfl := List.mem_singleton.1 hb
  exact (h x y e1 e2).symm
theorem ApartL.app {rs bs : List (Option Addr)} {ao : Option Addr} (h : ApartL rs ao) (k : ApartL bs ao) : ApartL (rs ++ bs) ao := fun b hb => by
  rcases List.mem_append.1 hb with hb | hb
  · exact h b hb
  · exact k b hb
theorem MarkedL.at_ {rs : List (Option Addr)} {w w' : World} (h : MarkedL rs w w') {ao : Option Addr} (hlt : ∀ a, ao = some a → a.block < w.heap.size) (ha : ApartL rs ao) : ∀ a, ao = some a → w'.heap[a.block]? = w.heap[a.block]? := fun a e => h.block _ (hlt a e) (fun b hb x ex => ha b hb x a ex e)
theorem OpsAt.markedL {rs : List (Option Addr)} {w w' : World} {ao : Option Addr} {l : List OpV} (h : OpsAt w ao l) (hm : MarkedL rs w w') (ha : ApartL rs ao) : OpsAt w' ao l := fun j hj => by
  obtain ⟨b, off, e, hlt, ho⟩ := h j hj
  exact ⟨b, off, e, Nat.lt_of_lt_of_le hlt hm.size, ho.block (hm.block b hlt (fun c hc x ex => ha c hc x _ ex e))⟩
theorem SeensAt.markedL {rs : List (Option Addr)} {w w' : World} {ao : Option Addr} {l : List SeenV} (h : SeensAt w ao l) (hm : MarkedL rs w w') (ha : ApartL rs ao) : SeensAt w' ao l := fun j hj => by
  obtain ⟨b, off, e, hlt, ho⟩ := h j hj
  exact ⟨b, off, e, Nat.lt_of_lt_of_le hlt hm.size, ho.block (hm.block b hlt (fun c hc x ex => ha c hc x _ ex e))⟩
theorem MarkOk.lt_ {w : World} {ao : Option Addr} {n : Nat} (h : MarkOk w ao n) : ∀ a, ao = some a → a.block < w.heap.size := by
  rintro a rfl
  rcases h with ⟨g, N, e, _, hr⟩ | ⟨e, _⟩
  · cases e; exact hr.lt
  · cases e
theorem MarkOk.keep {w w' : World} {ao : Option Addr} {n : Nat} (h : MarkOk w ao n) (hb : ∀ a, ao = some a → w'.heap[a.block]? = w.heap[a.block]?) : MarkOk w' ao n := by
  rcases h with ⟨g, N, rfl, hN, cs, e, hn⟩ | h
  · exact .inl ⟨g, N, rfl, hN, cs, (hb _ rfl).trans e, hn⟩
  · exact .inr h
theorem MarkOk.markedL {rs : List (Option Addr)} {w w' : World} {ao : Option Addr} {n : Nat} (h : MarkOk w ao n) (hm : MarkedL rs w w') (ha : ApartL rs ao) : MarkOk w' ao n := h.keep (hm.at_ h.lt_ ha)
theorem MarkE.markedL {rs : List (Option Addr)} {w w' : World} {ao : Option Addr} {n : Nat} (h : MarkE w ao n) (hm : MarkedL rs w w') (ha : ApartL rs ao) : MarkE w' ao n := h.block_ (hm.at_ h.lt ha)
/-- The rows of a server may be marked. -/
structure MarkSv (w : World) (s : SrvV) (la sa : Option Addr) : Prop where
  ops : MarkOk w la s.ops.length
  seen : MarkE w sa s.seen.length
  apart : ∀ x y, la = some x → sa = some y → x.block ≠ y.block
theorem MarkSv.below {w w' : World} {s : SrvV} {la sa : Option Addr} (h : MarkSv w s la sa) (hb : Below w.heap.size w w') : MarkSv w' s la sa := ⟨h.ops.below hb, h.seen.below hb, h.apart⟩
theorem MarkSv.markedL {rs : List (Option Addr)} {w w' : World} {s : SrvV} {la sa : Option Addr} (h : MarkSv w s la sa) (hm : MarkedL rs w w') (h1 : ApartL rs la) (h2 : ApartL rs sa) : MarkSv w' s la sa := ⟨h.ops.markedL hm h1, h.seen.markedL hm h2, h.apart⟩
set_option maxRecDepth 100000 in
set_option maxHeartbeats 400000 in
theorem markServer_any (s : SrvV) (la sa : Option Addr) (lc sc k : Nat) (w : World) (hl : s.ops.length ≤ 1048576) (ho : s.seen.length ≤ 1048576) (hk : 0 < k) (hk2 : k ≤ 1048576) (hM : MarkSv w s la sa) :
    Calls Try.prog 14 #[s.agg la lc sa sc, .int .i64 (k : Int)] w fun e w' => e = .returned (.int .i64 ((k + 7 * s.ops.length + 2 * s.seen.length : Nat) : Int)) ∧ OpsAt w' la (marks k s.ops.length) ∧ SeensAt w' sa (marksE (k + 7 * s.ops.length) s.seen.length) ∧ MarkedL [la, sa] w w' := by
  have hB0 := SB.new w s la lc sa sc
  have hM0 := hM.below hB0.below
  have h1 := mark_any la s.ops.length lc k _ hl hk (by omega) hM0.ops
  have HB0 := hide hB0
  have HM0 := hide hM0
  have HM := hide hM
  obtain ⟨K, hK⟩ : ∃ K : Nat, K = k + 7 * s.ops.length := ⟨_, rfl⟩
  rw [← hK] at h1 ⊢
  have hK2 : K ≤ 10000000 := by omega
  have H1 := hide h1
  have hal := hM.ops.lt_
  have hao := hM.seen.lt
  have HAl := hide hal
  have HAo := hide hao
  obtain ⟨p0, p1⟩ := hB0.cells
  unfold SrvV.agg
  clear hB0 hM0 hM h1 hK hal hao
  go_enter Try.func14, Try.ntmps14
  go_wp2_with (first | (go_at_call 15; (refine H1.out.mono ?_); rintro e w1 ⟨rfl, hm1, _, hg1⟩; have hml := MarkedL.of_grown hg1; have HML := hide hml; have HA1 := hide hm1; have hs1 := HM0.out.seen.markedL hml (ApartL.one HM.out.apart); have hR1 := hml.block w.heap.size HB0.out.lt (fun a ha x e => by (obtain rfl := List.mem_singleton.1 ha); have := HAl.out x e; omega); have hb1 := hR1.trans HB0.out.srv; have h2 := markE_any sa s.seen.length sc K w1 ho (by omega) hs1; have H2 := hide h2; clear p0 p1 hg1 hm1 hml hs1 hR1 h2; obtain ⟨p0, p1, _⟩ := two hb1; clear hb1) | (go_at_call 45; (refine H2.out.mono ?_); rintro e w2 ⟨rfl, hm2, hg2⟩) | fail)
  go_ret
  have hml2 := MarkedL.of_grown hg2
  exact ⟨rfl, HA1.out.markedL hml2 (ApartL.one fun x y e1 e2 e => HM.out.apart y x e2 e1 e.symm), hm2, ((MarkedL.of_below HB0.out.below).trans HML.out).trans hml2⟩
set_option maxRecDepth 100000 in
set_option maxHeartbeats 400000 in
theorem heldServer_any (s : SrvV) (la sa : Option Addr) (lc sc : Nat) (w : World) (hl : s.ops.length ≤ 1048576) (ho : s.seen.length ≤ 1048576) (hA : OpsAt w la (marks 1 s.ops.length)) (hC : SeensAt w sa (marksE (1 + 7 * s.ops.length) s.seen.length)) :
    Calls Try.prog 47 #[s.agg la lc sa sc, .int .i64 1] w fun e w' => e = .returned (.int .i64 ((1 + 7 * s.ops.length + 2 * s.seen.length : Nat) : Int)) ∧ Below w.heap.size w w' := by
  have HB0 := hide (SB.new w s la lc sa sc)
  obtain ⟨K, hK⟩ : ∃ K : Nat, K = 1 + 7 * s.ops.length := ⟨_, rfl⟩
  rw [← hK] at hC ⊢
  have h1 := fun W (hW : Below w.heap.size w W) => heldOpS_any s.ops.length 1 lc la W hl (by omega) (by omega) (hA.stays hW)
  have h2 := fun W (hW : Below w.heap.size w W) => heldSeenS_any s.seen.length K sc sa W ho (by omega) (hC.stays hW)
  rw [← hK] at h1
  rw [show ((1 : Nat) : Int) = 1 from rfl] at h1
  obtain ⟨M, hM⟩ : ∃ M : Nat, M = K + 2 * s.seen.length := ⟨_, rfl⟩
  rw [← hM] at h2 ⊢
  have H1 := hide h1
  have H2 := hide h2
  obtain ⟨p0, p1⟩ := HB0.out.cells
  have hneg : ¬ ((K : Int) < 0) := by omega
  have hneg2 : ¬ ((M : Int) < 0) := by omega
  unfold SrvV.agg
  clear h1 h2 hK hM hA hC
  go_enter Try.func47, Try.ntmps47
  go_wp2_with (first | (go_at_call 48; (refine (H1.out _ HB0.out.below).mono ?_); rintro e w1 ⟨rfl, hb1⟩; have HB1 := hide (HB0.out.step hb1); clear p0 p1 hb1; obtain ⟨p0, p1⟩ := HB1.out.cells) | (go_at_call 67; (refine (H2.out _ HB1.out.below).mono ?_); rintro e w2 ⟨rfl, hb2⟩; have HB2 := hide (HB1.out.step hb2)) | fail)
  all_goals (try (exfalso; omega))
  all_goals (
    go_ret
    exact ⟨rfl, HB2.out.below⟩)
/-- All rows of what is told may be marked. -/
structure MarkSO (w : World) (x : SOutV) (la sa oa : Option Addr) : Prop where
  srv : MarkSv w x.srv la sa
  ops : MarkOk w oa x.ops.length
  ap1 : ∀ y z, la = some y → oa = some z → y.block ≠ z.block
  ap2 : ∀ y z, sa = some y → oa = some z → y.block ≠ z.block
theorem MarkSO.below {w w' : World} {x : SOutV} {la sa oa : Option Addr} (h : MarkSO w x la sa oa) (hb : Below w.heap.size w w') : MarkSO w' x la sa oa := ⟨h.srv.below hb, h.ops.below hb, h.ap1, h.ap2⟩
theorem MarkSO.markedL {rs : List (Option Addr)} {w w' : World} {x : SOutV} {la sa oa : Option Addr} (h : MarkSO w x la sa oa) (hm : MarkedL rs w w') (h1 : ApartL rs la) (h2 : ApartL rs sa) (h3 : ApartL rs oa) : MarkSO w' x la sa oa := ⟨h.srv.markedL hm h1 h2, h.ops.markedL hm h3, h.ap1, h.ap2⟩
theorem MarkSO.none_ (w : World) (many code : Int) : MarkSO w (SOutV.ill many code) none none none := ⟨⟨.inr ⟨rfl, rfl⟩, .inr ⟨rfl, rfl⟩, fun x y e => (by cases e)⟩, .inr ⟨rfl, rfl⟩, fun x y e => (by cases e), fun x y e => (by cases e)⟩
set_option maxRecDepth 100000 in
set_option maxHeartbeats 1000000 in
theorem eqServerOut_same (x : SOutV) (la sa oa lb sb ob : Option Addr) (lc sc oc ld sd od : Nat) (w : World) (hl : x.srv.ops.length ≤ maxLen) (hs : x.srv.seen.length ≤ maxLen) (ho : x.ops.length ≤ maxLen) (hA : OpsAt w la x.srv.ops) (hB : SeensAt w sa x.srv.seen) (hC : OpsAt w oa x.ops) (hA' : OpsAt w lb x.srv.ops) (hB' : SeensAt w sb x.srv.seen) (hC' : OpsAt w ob x.ops) :
    Calls Try.prog 11 #[x.agg la lc sa sc oa oc, x.agg lb ld sb sd ob od] w fun e w' => e = .returned (.bool true) ∧ Below w.heap.size w w' := by
  have h1 := fun W (hW : Below w.heap.size w W) => eqServer_same x.srv la sa lb sb lc sc ld sd W hl hs (hA.stays hW) (hB.stays hW) (hA'.stays hW) (hB'.stays hW)
  have h2 := fun W (hW : Below w.heap.size w W) => eqOpS_same x.ops oa ob oc od W ho (hC.stays hW) (hC'.stays hW)
  have hF := Fiv.new w x la lc sa sc oa oc
  have hb0 : Below w.heap.size w (w.alloc (.cells #[.slice la x.srv.ops.length lc, .slice sa x.srv.seen.length sc, .slice oa x.ops.length oc, .int .i64 x.many, .int .i64 x.code] 33)) := (Below.refl _ _).alloc (Nat.le_refl _) _
  have hG := Fiv.new (w.alloc (.cells #[.slice la x.srv.ops.length lc, .slice sa x.srv.seen.length sc, .slice oa x.ops.length oc, .int .i64 x.many, .int .i64 x.code] 33)) x lb ld sb sd ob od
  have hb1 := hb0.alloc hb0.size (.cells #[.slice lb x.srv.ops.length ld, .slice sb x.srv.seen.length sd, .slice ob x.ops.length od, .int .i64 x.many, .int .i64 x.code] 33)
  have HF := hide (hF.step ((Below.refl _ _).alloc (Nat.le_refl _) (.cells #[.slice lb x.srv.ops.length ld, .slice sb x.srv.seen.length sd, .slice ob x.ops.length od, .int .i64 x.many, .int .i64 x.code] 33)))
  rw [show (w.alloc (.cells #[.slice la x.srv.ops.length lc, .slice sa x.srv.seen.length sc, .slice oa x.ops.length oc, .int .i64 x.many, .int .i64 x.code] 33)).heap.size = w.heap.size + 1 by simp] at hG
  have HG := hide hG
  have HB := hide hb1
  have H1 := hide h1
  have H2 := hide h2
  obtain ⟨p0, p1, p2, p3, p4⟩ := HF.out.cells
  obtain ⟨q0, q1, q2, q3, q4⟩ := HG.out.cells
  unfold SOutV.agg
  unfold SrvV.agg at *
  clear h1 h2 hA hB hC hA' hB' hC' hF hG hb0 hb1 hl hs ho
  go_enter Try.func11, Try.ntmps11
  go_wp2_with (first | (go_at_call 12; (refine (H1.out _ HB.out).mono ?_); rintro e w1 ⟨rfl, hb1⟩; have HF1 := hide (HF.out.step hb1); have HG1 := hide (HG.out.step hb1); have HB1 := hide (HB.out.trans (hb1.mono HB.out.size)); clear p0 p1 p2 p3 p4 q0 q1 q2 q3 q4 hb1; obtain ⟨p0, p1, p2, p3, p4⟩ := HF1.out.cells; obtain ⟨q0, q1, q2, q3, q4⟩ := HG1.out.cells) | (go_at_call 13; (refine (H2.out _ HB1.out).mono ?_); rintro e w2 ⟨rfl, hb2⟩; have HF2 := hide (HF1.out.step hb2); have HG2 := hide (HG1.out.step hb2); have HB2 := hide (HB1.out.trans (hb2.mono HB1.out.size)); clear p0 p1 p2 p3 p4 q0 q1 q2 q3 q4 hb2; obtain ⟨p0, p1, p2, p3, p4⟩ := HF2.out.cells; obtain ⟨q0, q1, q2, q3, q4⟩ := HG2.out.cells) | fail)
  go_ret
  exact ⟨rfl, HB2.out⟩
set_option maxRecDepth 100000 in
set_option maxHeartbeats 1000000 in
theorem markServerOut_any (x : SOutV) (la sa oa : Option Addr) (lc sc oc : Nat) (w : World) (hl : x.srv.ops.length ≤ 1048576) (hs : x.srv.seen.length ≤ 1048576) (ho : x.ops.length ≤ 1048576) (hM : MarkSO w x la sa oa) :
    Calls Try.prog 16 #[x.agg la lc sa sc oa oc, .int .i64 1] w fun e w' => e = .returned (.int .i64 ((1 + 7 * x.srv.ops.length + 2 * x.srv.seen.length + 7 * x.ops.length : Nat) : Int)) ∧ OpsAt w' la (marks 1 x.srv.ops.length) ∧ SeensAt w' sa (marksE (1 + 7 * x.srv.ops.length) x.srv.seen.length) ∧ OpsAt w' oa (marks (1 + 7 * x.srv.ops.length + 2 * x.srv.seen.length) x.ops.length) ∧ MarkedL [la, sa, oa] w w' := by
  have hF := Fiv.new w x la lc sa sc oa oc
  have hb0 : Below w.heap.size w (w.alloc (.cells #[.slice la x.srv.ops.length lc, .slice sa x.srv.seen.length sc, .slice oa x.ops.length oc, .int .i64 x.many, .int .i64 x.code] 33)) := (Below.refl _ _).alloc (Nat.le_refl _) _
  have hM0 := hM.below hb0
  have h1 := markServer_any x.srv la sa lc sc 1 _ hl hs (by omega) (by omega) hM0.srv
  rw [show ((1 : Nat) : Int) = 1 from rfl] at h1
  obtain ⟨K, hK⟩ : ∃ K : Nat, K = 1 + 7 * x.srv.ops.length + 2 * x.srv.seen.length := ⟨_, rfl⟩
  rw [← hK] at h1 ⊢
  have hK0 : 0 < K := by omega
  have hK2 : K ≤ 20000000 := by omega
  have HB := hide hb0
  have H1 := hide h1
  have HM0 := hide hM0
  have HF := hide hF
  have HM := hide hM
  have hlt1 := hM.srv.ops.lt_
  have hlt2 := hM.srv.seen.lt
  have HLt := hide (And.intro hlt1 hlt2)
  obtain ⟨p0, p1, p2, p3, p4⟩ := hF.cells
  unfold SOutV.agg
  unfold SrvV.agg at *
  clear h1 hF hb0 hM hM0 hK hlt1 hlt2
  go_enter Try.func16, Try.ntmps16
  go_wp2_with (first | (go_at_call 14; (refine H1.out.mono ?_); rintro e w1 ⟨rfl, hx, hy, hm⟩; have hap : ApartL [la, sa] oa := (fun b hb y z e1 e2 => by (rcases List.mem_cons.1 hb with rfl | hb); (exact fun e => HM0.out.ap1 y z e1 e2 e.symm); (obtain rfl := List.mem_singleton.1 hb); exact fun e => HM0.out.ap2 y z e1 e2 e.symm); have ho1 := HM0.out.ops.markedL hm hap; have hF1 := HF.out.keep (hm.block _ HF.out.lt (fun a ha y e => by (rcases List.mem_cons.1 ha with rfl | ha); (have := HLt.out.1 y e; omega); (obtain rfl := List.mem_singleton.1 ha); have := HLt.out.2 y e; omega)); have h2 := mark_any oa x.ops.length oc K w1 ho hK0 (by omega) ho1; have H2 := hide h2; have HX := hide (And.intro hx (And.intro hy hm)); clear hx hy hm hap ho1 h2 p0 p1 p2 p3 p4; obtain ⟨p0, p1, p2, p3, p4⟩ := hF1.cells; clear hF1) | (go_at_call 15; (refine H2.out.mono ?_); rintro e w2 ⟨rfl, hm2, _, hg2⟩) | fail)
  go_ret
  obtain ⟨hx, hy, hm⟩ := HX.out
  have hml2 := MarkedL.of_grown hg2
  exact ⟨rfl, hx.markedL hml2 (ApartL.one fun y z e1 e2 e => HM.out.ap1 z y e2 e1 e.symm), hy.markedL hml2 (ApartL.one fun y z e1 e2 e => HM.out.ap2 z y e2 e1 e.symm), hm2, ((MarkedL.of_below HB.out).trans hm).trans hml2⟩
set_option maxRecDepth 100000 in
set_option maxHeartbeats 1000000 in
theorem heldServerOut_any (x : SOutV) (la sa oa : Option Addr) (lc sc oc : Nat) (w : World) (hl : x.srv.ops.length ≤ 1048576) (hs : x.srv.seen.length ≤ 1048576) (ho : x.ops.length ≤ 1048576) (hA : OpsAt w la (marks 1 x.srv.ops.length)) (hC : SeensAt w sa (marksE (1 + 7 * x.srv.ops.length) x.srv.seen.length)) (hO : OpsAt w oa (marks (1 + 7 * x.srv.ops.length + 2 * x.srv.seen.length) x.ops.length)) :
    Calls Try.prog 17 #[x.agg la lc sa sc oa oc, .int .i64 1] w fun e w' => e = .returned (.int .i64 ((1 + 7 * x.srv.ops.length + 2 * x.srv.seen.length + 7 * x.ops.length : Nat) : Int)) ∧ Below w.heap.size w w' := by
  have hF := Fiv.new w x la lc sa sc oa oc
  have hb0 : Below w.heap.size w (w.alloc (.cells #[.slice la x.srv.ops.length lc, .slice sa x.srv.seen.length sc, .slice oa x.ops.length oc, .int .i64 x.many, .int .i64 x.code] 33)) := (Below.refl _ _).alloc (Nat.le_refl _) _
  have h1 := fun W (hW : Below w.heap.size w W) => heldServer_any x.srv la sa lc sc W hl hs (hA.stays hW) (hC.stays hW)
  obtain ⟨K, hK⟩ : ∃ K : Nat, K = 1 + 7 * x.srv.ops.length + 2 * x.srv.seen.length := ⟨_, rfl⟩
  rw [← hK] at hO ⊢
  have h2 := fun W (hW : Below w.heap.size w W) => heldOpS_any x.ops.length K oc oa W ho (by omega) (by omega) (hO.stays hW)
  simp only [← hK] at h1
  obtain ⟨M, hM⟩ : ∃ M : Nat, M = K + 7 * x.ops.length := ⟨_, rfl⟩
  rw [← hM] at h2 ⊢
  have hneg : ¬ ((K : Int) < 0) := by omega
  have hneg2 : ¬ ((M : Int) < 0) := by omega
  have HB := hide hb0
  have H1 := hide h1
  have H2 := hide h2
  have HF := hide hF
  obtain ⟨p0, p1, p2, p3, p4⟩ := hF.cells
  unfold SOutV.agg
  unfold SrvV.agg at *
  clear h1 h2 hF hb0 hA hC hO hK hM
  go_enter Try.func17, Try.ntmps17
  go_wp2_with (first | (go_at_call 47; (refine (H1.out _ HB.out).mono ?_); rintro e w1 ⟨rfl, hb1⟩; have HB1 := hide (HB.out.trans (hb1.mono HB.out.size)); have hF1 := HF.out.step hb1; clear p0 p1 p2 p3 p4 hb1; obtain ⟨p0, p1, p2, p3, p4⟩ := hF1.cells; clear hF1) | (go_at_call 48; (refine (H2.out _ HB1.out).mono ?_); rintro e w2 ⟨rfl, hb2⟩; have HB2 := hide (HB1.out.trans (hb2.mono HB1.out.size)); clear hb2) | fail)
  all_goals (try (exfalso; omega))
  all_goals (
    go_ret
    exact ⟨rfl, HB2.out⟩)
end Go.Proofs.Ytdjjpaleemnikaa.OpR
