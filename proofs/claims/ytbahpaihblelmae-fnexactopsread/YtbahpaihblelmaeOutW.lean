/- Proves what the harness does with an answer of ops: it is compared, marked, and its marks are looked at. -/
import Derived.Test.YtbahpaihblelmaeHeldS
import Derived.Test.YtbahpaihblelmaeOpS
namespace Go.Proofs.Ytbahpaihblelmae.OpR
open Go.ChangeShapes Go.WideShapes Go.ChangeAt Go.RowKit
set_option linter.unusedVariables false

set_option maxRecDepth 100000 in
set_option maxHeartbeats 400000 in
theorem eqOut_same (r : List OpV) (many code : Int) (a1 a2 : Option Addr) (c1 c2 : Nat) (w : World) (hl : r.length ≤ maxLen) (hA : OpsAt w a1 r) (hC : OpsAt w a2 r) :
    Calls Try.prog 9 #[.agg #[.slice a1 r.length c1, .int .i64 many, .int .i64 code], .agg #[.slice a2 r.length c2, .int .i64 many, .int .i64 code]] w fun e w' => e = .returned (.bool true) ∧ Below w.heap.size w w' := by
  have h1 := fun W (hW : Below w.heap.size w W) => eqOpS_same r a1 a2 c1 c2 W hl (hA.stays hW) (hC.stays hW)
  clear hA hC
  have hb0 : Below w.heap.size w ((w.alloc (.cells #[.slice a1 r.length c1, .int .i64 many, .int .i64 code] 24)).alloc (.cells #[.slice a2 r.length c2, .int .i64 many, .int .i64 code] 24)) := ((Below.refl _ _).alloc (Nat.le_refl _) _).alloc (by simp) _
  have hv1 : ∀ W, Below ((w.alloc (.cells #[.slice a1 r.length c1, .int .i64 many, .int .i64 code] 24)).alloc (.cells #[.slice a2 r.length c2, .int .i64 many, .int .i64 code] 24)).heap.size ((w.alloc (.cells #[.slice a1 r.length c1, .int .i64 many, .int .i64 code] 24)).alloc (.cells #[.slice a2 r.length c2, .int .i64 many, .int .i64 code] 24)) W → W.cell? ⟨w.heap.size, 1, none⟩ = some (.int .i64 many) ∧ W.cell? ⟨w.heap.size, 2, none⟩ = some (.int .i64 code) ∧ W.cell? ⟨w.heap.size + 1, 1, none⟩ = some (.int .i64 many) ∧ W.cell? ⟨w.heap.size + 1, 2, none⟩ = some (.int .i64 code) := by
    intro W hW
    refine ⟨?_, ?_, ?_, ?_⟩ <;> (rw [hW.cell (by simp <;> omega)]; simp)
  go_enter Try.func9, Try.ntmps9
  go_wp2_with (first | (go_at_call 16; refine (h1 _ hb0).mono ?_; rintro e w1 ⟨rfl, hb1⟩; have hB1 := hb0.trans (hb1.mono (by simp <;> omega)); obtain ⟨k1, k2, k3, k4⟩ := hv1 w1 hb1))
  go_ret
  exact ⟨rfl, hB1⟩
/-- A row that may be marked: one of the call's own, or none. -/
def MarkOk (w : World) (ag : Option Addr) (n : Nat) : Prop := (∃ g N, ag = some ⟨g, 0, none⟩ ∧ n * 7 ≤ N ∧ RowB w g 63 N) ∨ (ag = none ∧ n = 0)
theorem MarkOk.below {w w' : World} {ag : Option Addr} {n : Nat} (h : MarkOk w ag n) (hb : Below w.heap.size w w') : MarkOk w' ag n := by
  rcases h with ⟨g, N, e, hN, h⟩ | h
  · exact .inl ⟨g, N, e, hN, h.below hb⟩
  · exact .inr h
set_option maxRecDepth 100000 in
set_option maxHeartbeats 400000 in
theorem markNil_any (k cap : Nat) (w : World) :
    Calls Try.prog 17 #[.slice none 0 cap, .int .i64 (k : Int)] w fun e w' => e = .returned (.int .i64 (k : Int)) ∧ w = w' := by
  go_enter Try.func17, Try.ntmps17
  go_wp2
  refine wp_loop_rounds 1 ?_
  rw [rounds_succ]
  go_wp2
  go_ret
  exact ⟨rfl, rfl⟩
theorem mark_any (ag : Option Addr) (n cap k : Nat) (w : World) (hn : n ≤ 1048576) (hk : 0 < k) (hk2 : k ≤ 1099511627776 / 2) (h : MarkOk w ag n) :
    Calls Try.prog 17 #[.slice ag n cap, .int .i64 (k : Int)] w fun e w' => e = .returned (.int .i64 ((k + 7 * n : Nat) : Int)) ∧ OpsAt w' ag (marks k n) ∧ MarkOk w' ag n ∧ w.grownBy w' (ag.map (·.block)) := by
  rcases h with ⟨g, N, rfl, hN, h⟩ | ⟨rfl, rfl⟩
  · refine (markOpS_some g 0 n cap k N 63 w hn hk hk2 h (by omega)).mono ?_
    rintro e w' ⟨he, h1, h2, h3⟩
    exact ⟨he, h1, .inl ⟨g, N, rfl, hN, h2⟩, h3⟩
  · refine (markNil_any k cap w).mono ?_
    rintro e w' ⟨he, rfl⟩
    exact ⟨he, fun j hj => absurd hj (by simp [marks]), .inr ⟨rfl, rfl⟩, grown_refl _ _⟩
set_option maxRecDepth 100000 in
set_option maxHeartbeats 400000 in
theorem markOut_any (ag : Option Addr) (n cap : Nat) (many code : Int) (w : World) (hn : n ≤ 1048576) (h : MarkOk w ag n) :
    Calls Try.prog 10 #[.agg #[.slice ag n cap, .int .i64 many, .int .i64 code], .int .i64 1] w fun e w' => e = .returned (.int .i64 ((1 + 7 * n : Nat) : Int)) ∧ OpsAt w' ag (marks 1 n) ∧ MarkOk w' ag n ∧ w.grownBy w' (ag.map (·.block)) := by
  have hb0 : Below w.heap.size w (w.alloc (.cells #[.slice ag n cap, .int .i64 many, .int .i64 code] 24)) := (Below.refl _ _).alloc (Nat.le_refl _) _
  have h1 := mark_any ag n cap 1 (w.alloc (.cells #[.slice ag n cap, .int .i64 many, .int .i64 code] 24)) hn (by omega) (by omega) (h.below hb0)
  rw [show ((1 : Nat) : Int) = 1 from rfl] at h1
  have H1 := Hid.mk h1
  clear h1 h
  go_enter Try.func10, Try.ntmps10
  go_wp2_with (first | (go_at_call 17; refine H1.out.mono ?_; rintro e w1 ⟨rfl, hm, ho, hg⟩))
  go_ret
  exact ⟨rfl, hm, ho, grown_trans (grown_below hb0) hg⟩
set_option maxRecDepth 100000 in
set_option maxHeartbeats 400000 in
theorem heldOut_any (ag : Option Addr) (n cap : Nat) (many code : Int) (w : World) (hn : n ≤ 1048576) (h : OpsAt w ag (marks 1 n)) :
    Calls Try.prog 11 #[.agg #[.slice ag n cap, .int .i64 many, .int .i64 code], .int .i64 1] w fun e w' => e = .returned (.int .i64 ((1 + 7 * n : Nat) : Int)) ∧ Below w.heap.size w w' := by
  have hb0 : Below w.heap.size w (w.alloc (.cells #[.slice ag n cap, .int .i64 many, .int .i64 code] 24)) := (Below.refl _ _).alloc (Nat.le_refl _) _
  have h1 := heldOpS_any n 1 cap ag (w.alloc (.cells #[.slice ag n cap, .int .i64 many, .int .i64 code] 24)) hn (by omega) (by omega) (h.stays hb0)
  rw [show ((1 : Nat) : Int) = 1 from rfl] at h1
  have H1 := Hid.mk h1
  clear h1 h
  go_enter Try.func11, Try.ntmps11
  go_wp2_with (first | (go_at_call 31; refine H1.out.mono ?_; rintro e w1 ⟨rfl, hb1⟩))
  go_ret
  exact ⟨rfl, hb0.trans (hb1.mono (by simp))⟩
end Go.Proofs.Ytbahpaihblelmae.OpR
