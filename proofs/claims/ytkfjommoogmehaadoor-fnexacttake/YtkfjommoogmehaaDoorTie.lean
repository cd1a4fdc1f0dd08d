/-
  DERIVED. GIVEN WITH THE SEED: THE PROGRAM's TIES (one call each: nine closed facts by the kernel) AND EACH ROW's TIE, after the 31st guide's Derived/Test/Toyas{Tie, Card}.lean. No idea stands in it: it is a product of the set-up. Laid BY PROGRAM, IN A SANDBOX (cutbox-door.mjs). By AI agents, Wed Nov 11 2026. No macro, syntax, notation, axiom, sorry.
-/
import Derived.Test.YtkfjommoogmehaaDoorRows
import Derived.LaidByTextLater
import Derived.SevenTiedAt
import Derived.LaidSub
import Derived.LaidOnce
namespace Go.Proofs.YtkfjommoogmehaaDoor
open Go
set_option maxRecDepth 100000
theorem seatTie1 : Tryd.prog.laidByTextLater [("loop.example/g00378/impl.errTooLong", Rows.laid_loop_example_g00378_impl_errTooLong), ("loop.example/g00378/impl.errNotRight", Rows.laid_loop_example_g00378_impl_errNotRight), ("loop.example/g00378/impl.errNoSuch", Rows.laid_loop_example_g00378_impl_errNoSuch), ("loop.example/g00378/impl.errAnother", Rows.laid_loop_example_g00378_impl_errAnother), ("loop.example/g00378/impl.errPlace", Rows.laid_loop_example_g00378_impl_errPlace), ("loop.example/g00378/impl.errNoRoom", Rows.laid_loop_example_g00378_impl_errNoRoom), ("loop.example/g00378/impl.errLoop", Rows.laid_loop_example_g00378_impl_errLoop)] [.sentinel, .sentinel, .sentinel, .sentinel, .sentinel, .sentinel, .sentinel] true :=
  Program.laidByTextLater_by_one 142 8 2 (by kernel_rfl) (by kernel_rfl) (by kernel_rfl) (by kernel_rfl) (by kernel_rfl) (by kernel_rfl) (fun _ _ => by kernel_rfl)
theorem noOwnUnsafe : Tryd.pinned.checked.prog.headLifts.contains "ownunsafe" = false := by kernel_rfl
theorem tie : Tryd.prog.laidByTextLater [("loop.example/g00378/impl.errTooLong", Rows.laid_loop_example_g00378_impl_errTooLong), ("loop.example/g00378/impl.errNotRight", Rows.laid_loop_example_g00378_impl_errNotRight), ("loop.example/g00378/impl.errNoSuch", Rows.laid_loop_example_g00378_impl_errNoSuch), ("loop.example/g00378/impl.errAnother", Rows.laid_loop_example_g00378_impl_errAnother), ("loop.example/g00378/impl.errPlace", Rows.laid_loop_example_g00378_impl_errPlace), ("loop.example/g00378/impl.errNoRoom", Rows.laid_loop_example_g00378_impl_errNoRoom), ("loop.example/g00378/impl.errLoop", Rows.laid_loop_example_g00378_impl_errLoop)] [.sentinel, .sentinel, .sentinel, .sentinel, .sentinel, .sentinel, .sentinel] true :=
  Program.laidByTextLater.sub seatTie1 ["loop.example/g00378/impl.errTooLong", "loop.example/g00378/impl.errNotRight", "loop.example/g00378/impl.errNoSuch", "loop.example/g00378/impl.errAnother", "loop.example/g00378/impl.errPlace", "loop.example/g00378/impl.errNoRoom", "loop.example/g00378/impl.errLoop"] (by kernel_rfl) (by kernel_rfl)
theorem fnExactTake_row_tie : Rows.fnExactTakeRow.laidByTextAt .later Tryd.pinned [.sentinel, .sentinel, .sentinel, .sentinel, .sentinel, .sentinel, .sentinel] true :=
  OpenClaim.laidByTextAt_later rfl rfl tie noOwnUnsafe
theorem fnExactTakeUpto_row_tie : Rows.fnExactTakeUptoRow.laidByTextAt .later Tryd.pinned [.sentinel, .sentinel, .sentinel, .sentinel, .sentinel, .sentinel, .sentinel] true :=
  OpenClaim.laidByTextAt_later rfl rfl tie noOwnUnsafe
end Go.Proofs.YtkfjommoogmehaaDoor
