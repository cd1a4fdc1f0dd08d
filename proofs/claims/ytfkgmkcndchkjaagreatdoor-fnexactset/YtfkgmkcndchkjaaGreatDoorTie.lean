/-
  DERIVED. GIVEN WITH THE SEED: THE PROGRAM's TIES (one call each: nine closed facts by the kernel) AND EACH ROW's TIE, after the 31st guide's Derived/Test/Toyas{Tie, Card}.lean. No idea stands in it: it is a product of the set-up. Laid BY PROGRAM, IN A SANDBOX (cutbox-door.mjs). By AI agents, Wed Nov 11 2026. No macro, syntax, notation, axiom, sorry.
-/
import Derived.Test.YtfkgmkcndchkjaaGreatDoorRows
import Derived.LaidByTextLater
import Derived.SevenTiedAt
import Derived.LaidSub
import Derived.LaidOnce
namespace Go.Proofs.YtfkgmkcndchkjaaGreatDoor
open Go
set_option maxRecDepth 100000
theorem seatTie1 : Tryz.prog.laidByTextLater [("loop.example/g00378/impl.errTooLong", Rows.laid_loop_example_g00378_impl_errTooLong), ("loop.example/g00378/impl.errNotRight", Rows.laid_loop_example_g00378_impl_errNotRight), ("loop.example/g00378/impl.errNoSuch", Rows.laid_loop_example_g00378_impl_errNoSuch), ("loop.example/g00378/impl.errAnother", Rows.laid_loop_example_g00378_impl_errAnother), ("loop.example/g00378/impl.errPlace", Rows.laid_loop_example_g00378_impl_errPlace), ("loop.example/g00378/impl.errNoRoom", Rows.laid_loop_example_g00378_impl_errNoRoom), ("loop.example/g00378/impl.errLoop", Rows.laid_loop_example_g00378_impl_errLoop), ("loop.example/g00378/impl.errNoRecord", Rows.laid_loop_example_g00378_impl_errNoRecord)] [.sentinel, .sentinel, .sentinel, .sentinel, .sentinel, .sentinel, .sentinel, .sentinel] true :=
  Program.laidByTextLater_by_one 161 8 2 (by kernel_rfl) (by kernel_rfl) (by kernel_rfl) (by kernel_rfl) (by kernel_rfl) (by kernel_rfl) (fun _ _ => by kernel_rfl)
theorem noOwnUnsafe : Tryz.pinned.checked.prog.headLifts.contains "ownunsafe" = false := by kernel_rfl
theorem tie : Tryz.prog.laidByTextLater [("loop.example/g00378/impl.errTooLong", Rows.laid_loop_example_g00378_impl_errTooLong), ("loop.example/g00378/impl.errNotRight", Rows.laid_loop_example_g00378_impl_errNotRight), ("loop.example/g00378/impl.errNoSuch", Rows.laid_loop_example_g00378_impl_errNoSuch), ("loop.example/g00378/impl.errAnother", Rows.laid_loop_example_g00378_impl_errAnother), ("loop.example/g00378/impl.errPlace", Rows.laid_loop_example_g00378_impl_errPlace), ("loop.example/g00378/impl.errNoRoom", Rows.laid_loop_example_g00378_impl_errNoRoom), ("loop.example/g00378/impl.errLoop", Rows.laid_loop_example_g00378_impl_errLoop)] [.sentinel, .sentinel, .sentinel, .sentinel, .sentinel, .sentinel, .sentinel] true :=
  Program.laidByTextLater.sub seatTie1 ["loop.example/g00378/impl.errTooLong", "loop.example/g00378/impl.errNotRight", "loop.example/g00378/impl.errNoSuch", "loop.example/g00378/impl.errAnother", "loop.example/g00378/impl.errPlace", "loop.example/g00378/impl.errNoRoom", "loop.example/g00378/impl.errLoop"] (by kernel_rfl) (by kernel_rfl)
theorem fnExactMove_row_tie : Rows.fnExactMoveRow.laidByTextAt .later Tryz.pinned [.sentinel, .sentinel, .sentinel, .sentinel, .sentinel, .sentinel, .sentinel] true :=
  OpenClaim.laidByTextAt_later rfl rfl tie noOwnUnsafe
theorem fnExactSet_row_tie : Rows.fnExactSetRow.laidByTextAt .later Tryz.pinned [.sentinel, .sentinel, .sentinel, .sentinel, .sentinel, .sentinel, .sentinel] true :=
  OpenClaim.laidByTextAt_later rfl rfl tie noOwnUnsafe
theorem tie2 : Tryz.prog.laidByTextLater [("loop.example/g00378/impl.errTooLong", Rows.laid_loop_example_g00378_impl_errTooLong), ("loop.example/g00378/impl.errNotRight", Rows.laid_loop_example_g00378_impl_errNotRight), ("loop.example/g00378/impl.errNoSuch", Rows.laid_loop_example_g00378_impl_errNoSuch), ("loop.example/g00378/impl.errAnother", Rows.laid_loop_example_g00378_impl_errAnother), ("loop.example/g00378/impl.errPlace", Rows.laid_loop_example_g00378_impl_errPlace), ("loop.example/g00378/impl.errNoRoom", Rows.laid_loop_example_g00378_impl_errNoRoom), ("loop.example/g00378/impl.errLoop", Rows.laid_loop_example_g00378_impl_errLoop), ("loop.example/g00378/impl.errNoRecord", Rows.laid_loop_example_g00378_impl_errNoRecord)] [.sentinel, .sentinel, .sentinel, .sentinel, .sentinel, .sentinel, .sentinel, .sentinel] true :=
  Program.laidByTextLater.sub seatTie1 ["loop.example/g00378/impl.errTooLong", "loop.example/g00378/impl.errNotRight", "loop.example/g00378/impl.errNoSuch", "loop.example/g00378/impl.errAnother", "loop.example/g00378/impl.errPlace", "loop.example/g00378/impl.errNoRoom", "loop.example/g00378/impl.errLoop", "loop.example/g00378/impl.errNoRecord"] (by kernel_rfl) (by kernel_rfl)
theorem fnExactClientOf_row_tie : Rows.fnExactClientOfRow.laidByTextAt .later Tryz.pinned [.sentinel, .sentinel, .sentinel, .sentinel, .sentinel, .sentinel, .sentinel, .sentinel] true :=
  OpenClaim.laidByTextAt_later rfl rfl tie2 noOwnUnsafe
theorem fnExactJournalRight_row_tie : Rows.fnExactJournalRightRow.laidByTextAt .later Tryz.pinned [.sentinel, .sentinel, .sentinel, .sentinel, .sentinel, .sentinel, .sentinel, .sentinel] true :=
  OpenClaim.laidByTextAt_later rfl rfl tie2 noOwnUnsafe
theorem fnExactNoteOp_row_tie : Rows.fnExactNoteOpRow.laidByTextAt .later Tryz.pinned [.sentinel, .sentinel, .sentinel, .sentinel, .sentinel, .sentinel, .sentinel, .sentinel] true :=
  OpenClaim.laidByTextAt_later rfl rfl tie2 noOwnUnsafe
theorem fnExactNoteTake_row_tie : Rows.fnExactNoteTakeRow.laidByTextAt .later Tryz.pinned [.sentinel, .sentinel, .sentinel, .sentinel, .sentinel, .sentinel, .sentinel, .sentinel] true :=
  OpenClaim.laidByTextAt_later rfl rfl tie2 noOwnUnsafe
theorem fnExactMoveUpto_row_tie : Rows.fnExactMoveUptoRow.laidByTextAt .later Tryz.pinned [.sentinel, .sentinel, .sentinel, .sentinel, .sentinel, .sentinel, .sentinel] true :=
  OpenClaim.laidByTextAt_later rfl rfl tie noOwnUnsafe
theorem fnExactSetUpto_row_tie : Rows.fnExactSetUptoRow.laidByTextAt .later Tryz.pinned [.sentinel, .sentinel, .sentinel, .sentinel, .sentinel, .sentinel, .sentinel] true :=
  OpenClaim.laidByTextAt_later rfl rfl tie noOwnUnsafe
theorem fnExactClientOfUpto_row_tie : Rows.fnExactClientOfUptoRow.laidByTextAt .later Tryz.pinned [.sentinel, .sentinel, .sentinel, .sentinel, .sentinel, .sentinel, .sentinel, .sentinel] true :=
  OpenClaim.laidByTextAt_later rfl rfl tie2 noOwnUnsafe
theorem fnExactJournalRightUpto_row_tie : Rows.fnExactJournalRightUptoRow.laidByTextAt .later Tryz.pinned [.sentinel, .sentinel, .sentinel, .sentinel, .sentinel, .sentinel, .sentinel, .sentinel] true :=
  OpenClaim.laidByTextAt_later rfl rfl tie2 noOwnUnsafe
theorem fnExactNoteOpUpto_row_tie : Rows.fnExactNoteOpUptoRow.laidByTextAt .later Tryz.pinned [.sentinel, .sentinel, .sentinel, .sentinel, .sentinel, .sentinel, .sentinel, .sentinel] true :=
  OpenClaim.laidByTextAt_later rfl rfl tie2 noOwnUnsafe
theorem fnExactNoteTakeUpto_row_tie : Rows.fnExactNoteTakeUptoRow.laidByTextAt .later Tryz.pinned [.sentinel, .sentinel, .sentinel, .sentinel, .sentinel, .sentinel, .sentinel, .sentinel] true :=
  OpenClaim.laidByTextAt_later rfl rfl tie2 noOwnUnsafe
end Go.Proofs.YtfkgmkcndchkjaaGreatDoor
