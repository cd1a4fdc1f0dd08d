/- Proves what impl does with what was seen: a look, and one more. -/
import Derived.Test.YtdjjpaleemnikaaSrvM
import Derived.Test.YtdjjpaleemnikaaClsA
import Derived.Test.YtdjjpaleemnikaaIOp
import Derived.Test.YtdjjpaleemnikaaCliS
import Derived.Deep.RegionHeld3
namespace Go.Proofs.Ytdjjpaleemnikaa.OpR
open Go.ChangeShapes Go.WideShapes Go.ChangeAt Go.RowKit
set_option linter.unusedVariables false

/-- 'seen[x] = s', run. -/
theorem sg_store (B : Nat) (l : List (Int × SgtV)) (w : World) (hM : SgAt w B l) (hl : l.length < maxLen) (key : Int) (hk : -9223372036854775808 ≤ key ∧ key ≤ 9223372036854775807) (n : SgtV) :
    ∃ w', (Instr.mapUpdate 73 (.map (some B)) (.int .i64 key) (.agg #[.int .i64 n.many, .int .i64 n.last.time, .int .i64 n.last.repl, .int .i64 n.last.kind, .int .i64 n.last.node, .int .i64 n.last.parent, .string n.last.name, .string n.last.value])).run Try.prog w = .ok () w' ∧ SgAt w' B (sgPut l key n) ∧ w.mapTurned w' B := by
  obtain ⟨w', hrun, r1, r2⟩ := World.ownsMap.store hM sgLaw Try.underlying73 hl (sg_key hk) (show rdG n.agg = some (.held n.agg, []) from rfl)
  rw [sgD_put] at r1
  exact ⟨w', hrun, SgAt.of r1, r2⟩
theorem sight_many (s : SgtV) (W : World) : (Instr.field 81 (.agg #[.int .i64 s.many, .int .i64 s.last.time, .int .i64 s.last.repl, .int .i64 s.last.kind, .int .i64 s.last.node, .int .i64 s.last.parent, .string s.last.name, .string s.last.value]) 0).run Try.prog W = .ok (.int .i64 s.many) W := by kernel_rfl
theorem sight_last (s : SgtV) (W : World) : (Instr.field 81 (.agg #[.int .i64 s.many, .int .i64 s.last.time, .int .i64 s.last.repl, .int .i64 s.last.kind, .int .i64 s.last.node, .int .i64 s.last.parent, .string s.last.name, .string s.last.value]) 1).run Try.prog W = .ok (.agg #[.int .i64 s.last.time, .int .i64 s.last.repl, .int .i64 s.last.kind, .int .i64 s.last.node, .int .i64 s.last.parent, .string s.last.name, .string s.last.value]) W := by kernel_rfl
set_option maxRecDepth 100000 in
set_option maxHeartbeats 400000 in
theorem of_any (m : List (Int × SgtV)) (B : Nat) (r : Int) (w : World) (hr : -9223372036854775808 ≤ r ∧ r ≤ 9223372036854775807) (hM : SgAt w B m) :
    Calls Try.prog 41 #[.map (some B), .int .i64 r] w fun e w' => e = .returned (sgOf m r).agg ∧ Below w.heap.size w w' := by
  have HM := hide hM
  have HR := hide hr
  clear hM hr
  go_enter Try.func41, Try.ntmps41
  go_wp2_with (first | (at_lookup; refine wpList_sg_look _ rfl _ _ rfl B m rfl (HM.out.stays ((Below.refl _ _).alloc (Nat.le_refl _) _)) r HR.out rfl ?_) | go_in)
  refine bodyPost_ret (v := (sgOf m r).agg) (by simp [results, Try.results41, go_sem, SgtV.agg]) rfl ⟨rfl, (Below.refl _ _).alloc (Nat.le_refl _) _⟩
set_option maxRecDepth 100000 in
set_option maxHeartbeats 1000000 in
theorem addSeen_any (m : List (Int × SgtV)) (B : Nat) (o : OpV) (w : World) (hr : -9223372036854775808 ≤ o.repl ∧ o.repl ≤ 9223372036854775807) (hl : m.length ≤ 1048576) (hq : 0 ≤ (sgOf m o.repl).many ∧ (sgOf m o.repl).many ≤ 1048576) (hM : SgAt w B m) :
    Calls Try.prog 64 #[.map (some B), o.agg] w fun e w' => (∃ v, e = .returned v) ∧ SgAt w' B (sgPutOp m o) ∧ w.grownBy w' (some B) := by
  have hof := fun W (h : SgAt W B m) => of_any m B o.repl W hr h
  have HM := hide hM
  have HR := hide hr
  have HOF := hide hof
  have HBx := hide ((Below.refl w.heap.size w).alloc (Nat.le_refl _) (.cells #[.int .i64 o.time, .int .i64 o.repl, .int .i64 o.kind, .int .i64 o.node, .int .i64 o.parent, .string o.name, .string o.value] 59))
  have hO0 : OpsAt (w.alloc (.cells #[.int .i64 o.time, .int .i64 o.repl, .int .i64 o.kind, .int .i64 o.node, .int .i64 o.parent, .string o.name, .string o.value] 59)) (some ⟨w.heap.size, 0, none⟩) [o] := one_ops w o _
  have hcell : ∀ W, Below (w.alloc (.cells #[.int .i64 o.time, .int .i64 o.repl, .int .i64 o.kind, .int .i64 o.node, .int .i64 o.parent, .string o.name, .string o.value] 59)).heap.size (w.alloc (.cells #[.int .i64 o.time, .int .i64 o.repl, .int .i64 o.kind, .int .i64 o.node, .int .i64 o.parent, .string o.name, .string o.value] 59)) W → W.cell? ⟨w.heap.size, 0, none⟩ = some (.int .i64 o.time) ∧ W.cell? ⟨w.heap.size, 1, none⟩ = some (.int .i64 o.repl) ∧ W.cell? ⟨w.heap.size, 2, none⟩ = some (.int .i64 o.kind) ∧ W.cell? ⟨w.heap.size, 3, none⟩ = some (.int .i64 o.node) ∧ W.cell? ⟨w.heap.size, 4, none⟩ = some (.int .i64 o.parent) ∧ W.cell? ⟨w.heap.size, 5, none⟩ = some (.string o.name) ∧ W.cell? ⟨w.heap.size, 6, none⟩ = some (.string o.value) := fun W hW => by
    obtain ⟨b, off, e, _, ho⟩ := (hO0.stays hW) 0 (by simp)
    cases e
    simpa [OpAt] using ho
  have hd0 := hcell _ (Below.refl _ _)
  have hd1 := hcell _ (Below.refl _ _).drew
  have HC := hide hcell
  have hwr : wrap64 ((sgOf m o.repl).many + 1) = (sgOf m o.repl).many + 1 := by unfold wrap64; omega
  obtain ⟨s, hs⟩ : ∃ s, s = sgOf m o.repl := ⟨_, rfl⟩
  have HS := hide hs
  rw [← hs] at HOF hwr
  rw [← hs] at hq
  have hfld := fun W => sight_many s W
  have hwr2 : IntKind.i64.wrap (s.many + 1) = s.many + 1 := by rw [IntKind.wrap_i64]; omega
  unfold OpV.agg SgtV.agg at *
  have HBlt := hide hM.lt
  clear hM hr hof hO0 hcell hs hwr
  go_enter Try.func64, Try.ntmps64
  go_wp2
  go_region_held3 (fun W => W.cell? ⟨w.heap.size, 0, none⟩ = some (.int .i64 o.time) ∧ W.cell? ⟨w.heap.size, 1, none⟩ = some (.int .i64 o.repl) ∧ W.cell? ⟨w.heap.size, 2, none⟩ = some (.int .i64 o.kind) ∧ W.cell? ⟨w.heap.size, 3, none⟩ = some (.int .i64 o.node) ∧ W.cell? ⟨w.heap.size, 4, none⟩ = some (.int .i64 o.parent) ∧ W.cell? ⟨w.heap.size, 5, none⟩ = some (.string o.name) ∧ W.cell? ⟨w.heap.size, 6, none⟩ = some (.string o.value)) (first | with_reducible exact hd0 | with_reducible exact hd1 | with_reducible exact hd2 | with_reducible exact hd3 | fail) (first | (go_at_call 41; refine (HOF.out _ ((HM.out.stays HBx.out).stays (Below.refl _ _).drew)).mono ?_; rintro e w2 ⟨rfl, hb2⟩; have hB2 : Below (w.alloc (.cells #[.int .i64 o.time, .int .i64 o.repl, .int .i64 o.kind, .int .i64 o.node, .int .i64 o.parent, .string o.name, .string o.value] 59)).heap.size (w.alloc (.cells #[.int .i64 o.time, .int .i64 o.repl, .int .i64 o.kind, .int .i64 o.node, .int .i64 o.parent, .string o.name, .string o.value] 59)) w2 := ((Below.refl _ _).drew).trans (hb2.mono (Nat.le_refl _)); have hd2 := HC.out _ hB2; have HB2 := hide hB2; have hM2 := (HM.out.stays HBx.out).stays hB2; obtain ⟨w3, hrun3, hM3, ht3⟩ := sg_store B m w2 hM2 (by unfold maxLen; omega) o.repl HR.out ⟨s.many + 1, o⟩; have hd3 : w3.cell? ⟨w.heap.size, 0, none⟩ = some (.int .i64 o.time) ∧ w3.cell? ⟨w.heap.size, 1, none⟩ = some (.int .i64 o.repl) ∧ w3.cell? ⟨w.heap.size, 2, none⟩ = some (.int .i64 o.kind) ∧ w3.cell? ⟨w.heap.size, 3, none⟩ = some (.int .i64 o.node) ∧ w3.cell? ⟨w.heap.size, 4, none⟩ = some (.int .i64 o.parent) ∧ w3.cell? ⟨w.heap.size, 5, none⟩ = some (.string o.name) ∧ w3.cell? ⟨w.heap.size, 6, none⟩ = some (.string o.value) := (by have hb := ht3.grown.block w.heap.size (by have := hB2.size; simp at this; omega) (fun e => by have := HBlt.out; cases e; omega); simp only [World.cell?, hb]; exact hd2); have HM3 := hide hM3; have HT3 := hide ht3; clear hb2 hB2 hM2 hM3 ht3) | fail)
  go_wp2
  go_end0
  have hM3 := HM3.out
  rw [HS.out] at hM3
  refine ⟨⟨_, rfl⟩, hM3, ?_⟩
  have hb := HBx.out.trans (HB2.out.mono (by simp))
  exact (World.grownBy.trans ⟨hb.os, hb.tape, hb.output, hb.size, fun k hk _ => hb.block k hk⟩ HT3.out.grown)
end Go.Proofs.Ytdjjpaleemnikaa.OpR
