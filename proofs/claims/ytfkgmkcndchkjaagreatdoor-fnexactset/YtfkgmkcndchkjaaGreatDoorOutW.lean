/- Proves what the harness does with an answer of ops: it is compared, marked, and its marks are looked at. -/
import Derived.Test.YtfkgmkcndchkjaaGreatDoorHeldS
import Derived.Test.YtfkgmkcndchkjaaGreatDoorOpS
namespace Go.Proofs.YtfkgmkcndchkjaaGreatDoor.OpR
open Go.ChangeShapes Go.WideShapes Go.ChangeAt Go.RowKit
set_option linter.unusedVariables false

/-- A row that may be marked: one of the call's own, or none. -/
def MarkOk (w : World) (ag : Option Addr) (n : Nat) : Prop := (∃ g N, ag = some ⟨g, 0, none⟩ ∧ n * 7 ≤ N ∧ RowB w g 30 N) ∨ (ag = none ∧ n = 0)
theorem MarkOk.below {w w' : World} {ag : Option Addr} {n : Nat} (h : MarkOk w ag n) (hb : Below w.heap.size w w') : MarkOk w' ag n := by
  rcases h with ⟨g, N, e, hN, h⟩ | h
  · exact .inl ⟨g, N, e, hN, h.below hb⟩
  · exact .inr h
set_option maxRecDepth 100000 in
set_option maxHeartbeats 400000 in
theorem markNil_any (k cap : Nat) (w : World) :
    Calls Tryz.prog 50 #[.slice none 0 cap, .int .i64 (k : Int)] w fun e w' => e = .returned (.int .i64 (k : Int)) ∧ w = w' := by
  go_enter Tryz.func50, Tryz.ntmps50
  go_wp2
  refine wp_loop_rounds 1 ?_
  rw [rounds_succ]
  go_wp2
  go_ret
  exact ⟨rfl, rfl⟩
theorem mark_any (ag : Option Addr) (n cap k : Nat) (w : World) (hn : n ≤ 1048576) (hk : 0 < k) (hk2 : k ≤ 1099511627776 / 2) (h : MarkOk w ag n) :
    Calls Tryz.prog 50 #[.slice ag n cap, .int .i64 (k : Int)] w fun e w' => e = .returned (.int .i64 ((k + 7 * n : Nat) : Int)) ∧ OpsAt w' ag (marks k n) ∧ MarkOk w' ag n ∧ w.grownBy w' (ag.map (·.block)) := by
  rcases h with ⟨g, N, rfl, hN, h⟩ | ⟨rfl, rfl⟩
  · refine (markOpS_some g 0 n cap k N 30 w hn hk hk2 h (by omega)).mono ?_
    rintro e w' ⟨he, h1, h2, h3⟩
    exact ⟨he, h1, .inl ⟨g, N, rfl, hN, h2⟩, h3⟩
  · refine (markNil_any k cap w).mono ?_
    rintro e w' ⟨he, rfl⟩
    exact ⟨he, fun j hj => absurd hj (by simp [marks]), .inr ⟨rfl, rfl⟩, grown_refl _ _⟩
end Go.Proofs.YtfkgmkcndchkjaaGreatDoor.OpR
