/- Proves the walks of the laws FnExactOpRight and FnExactOpsRight, out of what impl's function answers. -/
import Derived.Test.YtbahpaihblelmadOpS
import Derived.Test.YtbahpaihblelmadOpY
import Derived.Test.YtbahpaihblelmadCameOp
namespace Go.Proofs.Ytbahpaihblelmad.OpR
open Go.ChangeShapes Go.WideShapes Go.ChangeAt Go.RowKit
set_option linter.unusedVariables false

/-- A world behind calls, in which the op that came in still lies where it was laid. -/
structure Cur (w c : World) (o : OpV) : Prop where
  below : Below w.heap.size w c
  lies : c.heap[w.heap.size]? = some (.cells #[.int .i64 o.time, .int .i64 o.repl, .int .i64 o.kind, .int .i64 o.node, .int .i64 o.parent, .string o.name, .string o.value] 31 (0, 0))
theorem Cur.start (w : World) (o : OpV) : Cur w (w.alloc (.cells #[.int .i64 o.time, .int .i64 o.repl, .int .i64 o.kind, .int .i64 o.node, .int .i64 o.parent, .string o.name, .string o.value] 31)) o := ⟨(Below.refl _ _).alloc (Nat.le_refl _) _, heap_alloc_new w _⟩
theorem Cur.step {w c c' : World} {o : OpV} (h : Cur w c o) (hb : Below c.heap.size c c') : Cur w c' o :=
  ⟨h.below.trans (hb.mono h.below.size), (hb.block _ (Array.getElem?_eq_some_iff.1 h.lies).1).trans h.lies⟩
theorem Cur.cells {w c : World} {o : OpV} (h : Cur w c o) : c.cell? ⟨w.heap.size, 0, none⟩ = some (.int .i64 o.time) ∧ c.cell? ⟨w.heap.size, 1, none⟩ = some (.int .i64 o.repl) ∧ c.cell? ⟨w.heap.size, 2, none⟩ = some (.int .i64 o.kind) ∧ c.cell? ⟨w.heap.size, 3, none⟩ = some (.int .i64 o.node) ∧ c.cell? ⟨w.heap.size, 4, none⟩ = some (.int .i64 o.parent) ∧ c.cell? ⟨w.heap.size, 5, none⟩ = some (.string o.name) ∧ c.cell? ⟨w.heap.size, 6, none⟩ = some (.string o.value) := by
  have e := h.lies
  refine ⟨?_, ?_, ?_, ?_, ?_, ?_, ?_⟩ <;> simp [World.cell?, e]

set_option maxRecDepth 100000 in
set_option maxHeartbeats 400000 in
theorem law_opRight (w : World) (o : OpV) (hz : o.name.size ≤ maxLen ∧ o.value.size ≤ maxLen)
    (hI : ∀ (o : OpV) (w : World), o.name.size ≤ 1048576 → o.value.size ≤ 1048576 → Calls Try.prog 19 #[o.agg] w fun e w' => e = .returned (.bool (opRight o)) ∧ Below w.heap.size w w') :
    Calls Try.prog 6 #[o.agg] w fun e w' => e = .returned (.bool true) ∧ Below w.heap.size w w' := by
  have hsz := fun w => szOp_any o 1048576 w (by omega) (by omega) hz.1 hz.2
  have hto := toOp_any o
  have hsp := fun w => sOp_any o w hz.1 hz.2
  have HI := hI o
  have HIh : Hid (∀ (w : World), o.name.size ≤ 1048576 → o.value.size ≤ 1048576 → Calls Try.prog 19 #[o.agg] w fun e w' => e = .returned (.bool (opRight o)) ∧ Below w.heap.size w w') := ⟨HI⟩
  clear hI HI hz
  have hc := Cur.start w o
  unfold OpV.agg at *
  go_enter Try.func6, Try.ntmps6
  go_wp2_with (first | (go_at_call 16; refine (hsz _).mono ?_; rintro e w1 ⟨m, rfl, hm0, hm1, hm2, hb1⟩; have hc := hc.step hb1; obtain ⟨c0, c1, c2, c3, c4, c5, c6⟩ := hc.cells) | (go_at_call 18; refine (hto _).mono ?_; rintro e w2 ⟨rfl, hb2⟩; have hc := hc.step hb2; obtain ⟨c0, c1, c2, c3, c4, c5, c6⟩ := hc.cells) | (go_at_call 17; refine (hsp _).mono ?_; rintro e w3 ⟨rfl, hb3⟩; have hc := hc.step hb3; obtain ⟨c0, c1, c2, c3, c4, c5, c6⟩ := hc.cells) | (go_at_call 19; refine (HIh.out _ (by omega) (by omega)).mono ?_; rintro e w4 ⟨rfl, hb4⟩; have hc := hc.step hb4))
  all_goals (go_ret; exact ⟨rfl, hc.below⟩)

set_option maxRecDepth 100000 in
set_option maxHeartbeats 400000 in
theorem law_opsRight (w : World) (ao : Option Addr) (cap : Nat) (l : List OpV) (hC : CameOps w ao l)
    (hI : ∀ (l : List OpV) (ao : Option Addr) (cap : Nat) (w : World), l.length ≤ 1048576 → l.length ≤ cap → OpsAt w ao l → (∀ o ∈ l, o.name.size ≤ 1048576 ∧ o.value.size ≤ 1048576) → Calls Try.prog 23 #[.slice ao l.length cap] w fun e w' => e = .returned (.bool (opsRight l)) ∧ Below w.heap.size w w') :
    Calls Try.prog 7 #[.slice ao l.length cap] w fun e w' => e = .returned (.bool true) ∧ Below w.heap.size w w' := by
  obtain ⟨hl, hA, hS, _⟩ := hC
  have hsz := szOpS_any l ao cap w hl hA hS
  have HA : Hid (OpsAt w ao l) := ⟨hA⟩
  have HS : Hid (Sized l) := ⟨hS⟩
  have HI : Hid (∀ (ao : Option Addr) (cap : Nat) (w : World), l.length ≤ 1048576 → l.length ≤ cap → OpsAt w ao l → (∀ o ∈ l, o.name.size ≤ 1048576 ∧ o.value.size ≤ 1048576) → Calls Try.prog 23 #[.slice ao l.length cap] w fun e w' => e = .returned (.bool (opsRight l)) ∧ Below w.heap.size w w') := ⟨hI l⟩
  have HLn : Hid (l.length ≤ maxLen) := ⟨hl⟩
  unfold maxLen at hl
  have m1 : Hid True := ⟨trivial⟩
  have m2 : Hid True := ⟨trivial⟩
  clear hI hA hS
  go_enter Try.func7, Try.ntmps7
  go_wp2_with (first | (go_at_call 20; refine hsz.mono ?_; rintro e w1 ⟨m, rfl, hm, hb1⟩; have Hm : Hid (0 ≤ m → l.length ≤ 1048576 ∧ ∀ o ∈ l, o.name.size ≤ 1048576 ∧ o.value.size ≤ 1048576) := ⟨hm⟩; clear hm hsz) | (go_at_call 22; clear m1; obtain ⟨hl2, hs2⟩ := Hm.out (by omega); have HS2 : Hid (∀ o ∈ l, o.name.size ≤ 1048576 ∧ o.value.size ≤ 1048576) := ⟨hs2⟩; clear hs2; refine (toOpS_any l ao cap w1 hl2 (HA.out.stays hb1)).mono ?_; rintro e w2 ⟨rfl, hx2, hb2⟩; have hB2 := hb1.trans (hb2.mono hb1.size); have h3 := sOps_any l (some ⟨w1.heap.size, 0, none⟩) l.length w2 HLn.out hx2.opsAt HS.out) | (go_at_call 21; refine h3.mono ?_; rintro e w3 ⟨rfl, hb3⟩; have hB3 := hB2.trans (hb3.mono hB2.size); clear h3) | (go_at_call 22; clear m2; refine (toOpS_any l ao cap w3 hl2 (HA.out.stays hB3)).mono ?_; rintro e w4 ⟨rfl, hx4, hb4⟩; have hB4 := hB3.trans (hb4.mono hB3.size); have h5 := HI.out (some ⟨w3.heap.size, 0, none⟩) l.length w4 hl2 (Nat.le_refl _) hx4.opsAt HS2.out) | (go_at_call 23; refine h5.mono ?_; rintro e w5 ⟨rfl, hb5⟩; have hB5 := hB4.trans (hb5.mono hB4.size); clear h5) | (go_at_call 22; refine (toOpS_any l ao cap w5 hl2 (HA.out.stays hB5)).mono ?_; rintro e w6 ⟨rfl, hx6, hb6⟩; have hB6 := hB5.trans (hb6.mono hB5.size); have h7 := eqOpS_same l (some ⟨w3.heap.size, 0, none⟩) (some ⟨w5.heap.size, 0, none⟩) l.length l.length w6 HLn.out ((hx4.stays hb5).stays hb6).opsAt hx6.opsAt) | (go_at_call 24; refine h7.mono ?_; rintro e w7 ⟨rfl, hb7⟩; have hB7 := hB6.trans (hb7.mono hB6.size); clear h7))
  all_goals (go_ret; first | exact ⟨rfl, hB7⟩ | exact ⟨rfl, hb1⟩)
end Go.Proofs.Ytbahpaihblelmad.OpR
