/- Proves what spec.ClientNew and impl.ClientNew tell, and the walk of the law FnExactClientNew. -/
import Derived.Test.YtohepdnmjaegdaaCliH
import Derived.Test.YtohepdnmjaegdaaCliK
import Derived.Test.YtohepdnmjaegdaaHeldS
import Derived.Test.YtohepdnmjaegdaaOutW
namespace Go.Proofs.Ytohepdnmjaegdaa.OpR
open Go.ChangeShapes Go.WideShapes Go.ChangeAt Go.RowKit
set_option linter.unusedVariables false

/-- A new client. -/
def newC (r : Int) : CliV := if isIn r 1 50 then ⟨r, 0, [], 0, [], 0⟩ else CliV.zero
theorem newC_yes {r : Int} (h : isIn r 1 50 = true) : newC r = ⟨r, 0, [], 0, [], 0⟩ := by simp [newC, h]
theorem newC_no {r : Int} (h : isIn r 1 50 = false) : newC r = ⟨0, 0, [], 0, [], 0⟩ := by simp [newC, h, CliV.zero]
theorem sNew_any (r : Int) (w : World) : Calls Try.prog 5 #[.int .i64 r] w fun e w' => e = .returned ((newC r).agg none 0 none 0) ∧ Below w.heap.size w w' := by
  have hr := sRepl_any r
  cases h : isIn r 1 50
  · rw [newC_no h]
    simp only [h] at hr
    go_enter Try.func5, Try.ntmps5
    go_wp2_with (first | (go_at_call 14; refine (hr _).mono ?_; rintro e w1 ⟨rfl, rfl⟩))
    refine bodyPost_ret (v := .agg #[.int .i64 0, .int .i64 0, .slice none 0 0, .int .i64 0, .slice none 0 0, .int .i64 0]) (by simp [results, Try.results5, go_sem]) rfl ⟨rfl, (Below.refl _ _).alloc (Nat.le_refl _) _⟩
  · rw [newC_yes h]
    simp only [h] at hr
    go_enter Try.func5, Try.ntmps5
    go_wp2_with (first | (go_at_call 14; refine (hr _).mono ?_; rintro e w1 ⟨rfl, rfl⟩))
    refine bodyPost_ret (v := .agg #[.int .i64 r, .int .i64 0, .slice none 0 0, .int .i64 0, .slice none 0 0, .int .i64 0]) (by simp [results, Try.results5, go_sem]) rfl ⟨rfl, (Below.refl _ _).alloc (Nat.le_refl _) _⟩
theorem iNew_any (r : Int) (w : World) : Calls Try.prog 6 #[.int .i64 r] w fun e w' => e = .returned ((newC r).agg none 0 none 0) ∧ Below w.heap.size w w' := by
  have hr := repl_any r
  cases h : isIn r 1 50
  · rw [newC_no h]
    simp only [h] at hr
    go_enter Try.func6, Try.ntmps6
    go_wp2_with (first | (go_at_call 15; refine (hr _).mono ?_; rintro e w1 ⟨rfl, rfl⟩))
    refine bodyPost_ret (v := .agg #[.int .i64 0, .int .i64 0, .slice none 0 0, .int .i64 0, .slice none 0 0, .int .i64 0]) (by simp [results, Try.results6, go_sem]) rfl ⟨rfl, (Below.refl _ _).alloc (Nat.le_refl _) _⟩
  · rw [newC_yes h]
    simp only [h] at hr
    go_enter Try.func6, Try.ntmps6
    go_wp2_with (first | (go_at_call 15; refine (hr _).mono ?_; rintro e w1 ⟨rfl, rfl⟩))
    refine bodyPost_ret (v := .agg #[.int .i64 r, .int .i64 0, .slice none 0 0, .int .i64 0, .slice none 0 0, .int .i64 0]) (by simp [results, Try.results6, go_sem]) rfl ⟨rfl, (Below.refl _ _).alloc (Nat.le_refl _) _⟩
end Go.Proofs.Ytohepdnmjaegdaa.OpR
