/-
  NARROWER THAN 'FOR EVERY INPUT', by the rows' own cells (each row's printed sentence says how): FnExactMove: ifaces, laid · FnExactSet: ifaces, laid · FnExactClientOf: ifaces, laid · FnExactJournalRight: ifaces, laid · FnExactNoteOp: ifaces, laid · FnExactNoteTake: ifaces, laid.
  DERIVED. THE GIVEN ROWS OF THIS SEAT. 6 by the template 'for every input the law returns true; each argument reads behind the call as it read before'; 0 by the template 'total and deterministic' (their statements: YtfkgmkcndchkjaaGreatDoorTotals.lean).
  GIVEN WITH THE SEED: the statements are not yours to turn. If you find one false, say at which input.
  Laid BY PROGRAM, IN A SANDBOX (cutbox-rows.mjs): the forced cells as the released guide's own fill.sh prints them over the translation 09be7b9c06238007… (all of the seat's roots in one cut). By AI agents, Wed Nov 11 2026. No macro, syntax, notation, axiom, sorry.
-/
import Derived.Test.YtfkgmkcndchkjaaGreatDoorChecked
import GoSem.Claim
import GoSem.ClaimJoined
import GoSem.ClaimMapViews
import Derived.JoinedTies
import Derived.KernelRfl
namespace Go.Proofs.YtfkgmkcndchkjaaGreatDoor
/- THE CELL 'sum', in the pinned program and in every row, IS THE sha256 OF THE DUMP (.gsa) THAT YtfkgmkcndchkjaaGreatDoorProg.lean LOADS. Nothing in Lean hashes anything: it is a label: what it is worth is what the hold of that sum in a sandbox is worth. -/
noncomputable def Tryz.pinned : Pinned := { name := "ytfkgmkcndchkjaagreatdoor", sum := "09be7b9c0623800786520a4b5627c1edea6f6a0a3728be00e76e0220b4d40341", checked := Tryz.checked }
namespace Rows
def none {H : Type} : Left H := { results := [], args := [] }

/- WHAT THE LISTED PACKAGE-LEVEL VARIABLES READ AS WHEN THE CALL BEGINS. Each datum BY PROGRAM (the guide's laid-datum.mjs) off the statement by which the dump's own 'gosem.cut.vars' lays the variable. In a bare row this is a premise. The card (YtfkgmkcndchkjaaGreatDoorCards.lean) ties it to the program's text. -/
def laid_loop_example_g00378_impl_errTooLong {H : Type} : DataW H := .iface "*errors.errorString" (.ptr (.agg [.lit (.string [97, 32, 116, 101, 120, 116, 32, 111, 114, 32, 97, 32, 108, 105, 115, 116, 32, 105, 115, 32, 116, 111, 111, 32, 108, 111, 110, 103])]))
def laid_loop_example_g00378_impl_errNotRight {H : Type} : DataW H := .iface "*errors.errorString" (.ptr (.agg [.lit (.string [119, 104, 97, 116, 32, 105, 115, 32, 104, 97, 110, 100, 101, 100, 32, 105, 110, 32, 105, 115, 32, 110, 111, 116, 32, 114, 105, 103, 104, 116])]))
def laid_loop_example_g00378_impl_errNoSuch {H : Type} : DataW H := .iface "*errors.errorString" (.ptr (.agg [.lit (.string [116, 104, 101, 114, 101, 32, 105, 115, 32, 110, 111, 32, 115, 117, 99, 104, 32, 110, 111, 100, 101, 32, 111, 114, 32, 100, 101, 101, 100])]))
def laid_loop_example_g00378_impl_errAnother {H : Type} : DataW H := .iface "*errors.errorString" (.ptr (.agg [.lit (.string [116, 104, 101, 114, 101, 32, 105, 115, 32, 97, 110, 111, 116, 104, 101, 114, 32, 100, 101, 101, 100, 32, 111, 102, 32, 116, 104, 97, 116, 32, 115, 116, 97, 109, 112])]))
def laid_loop_example_g00378_impl_errPlace {H : Type} : DataW H := .iface "*errors.errorString" (.ptr (.agg [.lit (.string [116, 104, 101, 114, 101, 32, 105, 115, 32, 110, 111, 32, 115, 117, 99, 104, 32, 112, 108, 97, 99, 101])]))
def laid_loop_example_g00378_impl_errNoRoom {H : Type} : DataW H := .iface "*errors.errorString" (.ptr (.agg [.lit (.string [116, 104, 101, 114, 101, 32, 105, 115, 32, 110, 111, 32, 114, 111, 111, 109, 32, 102, 111, 114, 32, 109, 111, 114, 101])]))
def laid_loop_example_g00378_impl_errLoop {H : Type} : DataW H := .iface "*errors.errorString" (.ptr (.agg [.lit (.string [116, 104, 101, 32, 110, 111, 100, 101, 32, 119, 111, 117, 108, 100, 32, 108, 105, 101, 32, 98, 101, 108, 111, 119, 32, 105, 116, 115, 101, 108, 102])]))
def laid_loop_example_g00378_impl_errNoRecord {H : Type} : DataW H := .iface "*errors.errorString" (.ptr (.agg [.lit (.string [97, 32, 114, 101, 99, 111, 114, 100, 32, 116, 104, 97, 116, 32, 109, 97, 121, 32, 110, 111, 116, 32, 98, 101])]))

/-- 'laws.FnExactMove': WHATEVER THE INPUT: true; the input reads as it did. -/
def fnExactMoveSpec : ChangeSpec := { name := "fnExactMove", vars := ["loop.example/g00378/impl.errTooLong", "loop.example/g00378/impl.errNotRight", "loop.example/g00378/impl.errNoRoom", "loop.example/g00378/impl.errNoSuch", "loop.example/g00378/impl.errLoop", "loop.example/g00378/impl.errAnother", "loop.example/g00378/impl.errPlace"], fn := fun _ => fun
  | [d1, d2, d3, d4, g1, g2, g3, g4, g5, g6, g7] => { results := [.lit (.bool true)], args := [d1, d2, d3, d4], vars := [g1, g2, g3, g4, g5, g6, g7] }
  | _ => none }
def fnExactMoveRow : OpenClaim := { program := "ytfkgmkcndchkjaagreatdoor", sum := "09be7b9c0623800786520a4b5627c1edea6f6a0a3728be00e76e0220b4d40341", func := "loop.example/g00378/laws.FnExactMove", spec := "fnExactMove", inPlace := ["internal/reflectlite.TypeOf"], unfollowed := true, recurses := true, named := ["loop.example/g00378/impl.errTooLong", "loop.example/g00378/impl.errNotRight", "loop.example/g00378/impl.errNoRoom", "loop.example/g00378/impl.errNoSuch", "loop.example/g00378/impl.errLoop", "loop.example/g00378/impl.errAnother", "loop.example/g00378/impl.errPlace"], ifaces := true, apart := false, laid := [("loop.example/g00378/impl.errTooLong", laid_loop_example_g00378_impl_errTooLong), ("loop.example/g00378/impl.errNotRight", laid_loop_example_g00378_impl_errNotRight), ("loop.example/g00378/impl.errNoSuch", laid_loop_example_g00378_impl_errNoSuch), ("loop.example/g00378/impl.errAnother", laid_loop_example_g00378_impl_errAnother), ("loop.example/g00378/impl.errPlace", laid_loop_example_g00378_impl_errPlace), ("loop.example/g00378/impl.errNoRoom", laid_loop_example_g00378_impl_errNoRoom), ("loop.example/g00378/impl.errLoop", laid_loop_example_g00378_impl_errLoop)] }
def FnExactMoveSaid : Prop := fnExactMoveRow.holds Tryz.pinned (OpenSpec.ofChange fnExactMoveSpec)

/-- ITS FALSE NEIGHBOUR: 'it returns false'. Refute it at one input. -/
def fnExactMoveWrong : ChangeSpec := { name := "fnExactMove", vars := ["loop.example/g00378/impl.errTooLong", "loop.example/g00378/impl.errNotRight", "loop.example/g00378/impl.errNoRoom", "loop.example/g00378/impl.errNoSuch", "loop.example/g00378/impl.errLoop", "loop.example/g00378/impl.errAnother", "loop.example/g00378/impl.errPlace"], fn := fun _ => fun
  | [d1, d2, d3, d4, g1, g2, g3, g4, g5, g6, g7] => { results := [.lit (.bool false)], args := [d1, d2, d3, d4], vars := [g1, g2, g3, g4, g5, g6, g7] }
  | _ => none }
def FnExactMoveWrongFalsely : Prop := fnExactMoveRow.holds Tryz.pinned (OpenSpec.ofChange fnExactMoveWrong)

/-- 'laws.FnExactSet': WHATEVER THE INPUT: true; the input reads as it did. -/
def fnExactSetSpec : ChangeSpec := { name := "fnExactSet", vars := ["loop.example/g00378/impl.errTooLong", "loop.example/g00378/impl.errNotRight", "loop.example/g00378/impl.errNoRoom", "loop.example/g00378/impl.errNoSuch", "loop.example/g00378/impl.errLoop", "loop.example/g00378/impl.errAnother", "loop.example/g00378/impl.errPlace"], fn := fun _ => fun
  | [d1, d2, d3, d4, g1, g2, g3, g4, g5, g6, g7] => { results := [.lit (.bool true)], args := [d1, d2, d3, d4], vars := [g1, g2, g3, g4, g5, g6, g7] }
  | _ => none }
def fnExactSetRow : OpenClaim := { program := "ytfkgmkcndchkjaagreatdoor", sum := "09be7b9c0623800786520a4b5627c1edea6f6a0a3728be00e76e0220b4d40341", func := "loop.example/g00378/laws.FnExactSet", spec := "fnExactSet", inPlace := ["internal/reflectlite.TypeOf"], unfollowed := true, recurses := true, named := ["loop.example/g00378/impl.errTooLong", "loop.example/g00378/impl.errNotRight", "loop.example/g00378/impl.errNoRoom", "loop.example/g00378/impl.errNoSuch", "loop.example/g00378/impl.errLoop", "loop.example/g00378/impl.errAnother", "loop.example/g00378/impl.errPlace"], ifaces := true, apart := false, laid := [("loop.example/g00378/impl.errTooLong", laid_loop_example_g00378_impl_errTooLong), ("loop.example/g00378/impl.errNotRight", laid_loop_example_g00378_impl_errNotRight), ("loop.example/g00378/impl.errNoSuch", laid_loop_example_g00378_impl_errNoSuch), ("loop.example/g00378/impl.errAnother", laid_loop_example_g00378_impl_errAnother), ("loop.example/g00378/impl.errPlace", laid_loop_example_g00378_impl_errPlace), ("loop.example/g00378/impl.errNoRoom", laid_loop_example_g00378_impl_errNoRoom), ("loop.example/g00378/impl.errLoop", laid_loop_example_g00378_impl_errLoop)] }
def FnExactSetSaid : Prop := fnExactSetRow.holds Tryz.pinned (OpenSpec.ofChange fnExactSetSpec)

/-- ITS FALSE NEIGHBOUR: 'it returns false'. Refute it at one input. -/
def fnExactSetWrong : ChangeSpec := { name := "fnExactSet", vars := ["loop.example/g00378/impl.errTooLong", "loop.example/g00378/impl.errNotRight", "loop.example/g00378/impl.errNoRoom", "loop.example/g00378/impl.errNoSuch", "loop.example/g00378/impl.errLoop", "loop.example/g00378/impl.errAnother", "loop.example/g00378/impl.errPlace"], fn := fun _ => fun
  | [d1, d2, d3, d4, g1, g2, g3, g4, g5, g6, g7] => { results := [.lit (.bool false)], args := [d1, d2, d3, d4], vars := [g1, g2, g3, g4, g5, g6, g7] }
  | _ => none }
def FnExactSetWrongFalsely : Prop := fnExactSetRow.holds Tryz.pinned (OpenSpec.ofChange fnExactSetWrong)

/-- 'laws.FnExactClientOf': WHATEVER THE INPUT: true; the input reads as it did. -/
def fnExactClientOfSpec : ChangeSpec := { name := "fnExactClientOf", vars := ["loop.example/g00378/impl.errNoRecord", "loop.example/g00378/impl.errTooLong", "loop.example/g00378/impl.errNotRight", "loop.example/g00378/impl.errNoRoom", "loop.example/g00378/impl.errNoSuch", "loop.example/g00378/impl.errLoop", "loop.example/g00378/impl.errAnother", "loop.example/g00378/impl.errPlace"], fn := fun _ => fun
  | [d1, d2, g1, g2, g3, g4, g5, g6, g7, g8] => { results := [.lit (.bool true)], args := [d1, d2], vars := [g1, g2, g3, g4, g5, g6, g7, g8] }
  | _ => none }
def fnExactClientOfRow : OpenClaim := { program := "ytfkgmkcndchkjaagreatdoor", sum := "09be7b9c0623800786520a4b5627c1edea6f6a0a3728be00e76e0220b4d40341", func := "loop.example/g00378/laws.FnExactClientOf", spec := "fnExactClientOf", unfollowed := true, recurses := true, named := ["loop.example/g00378/impl.errNoRecord", "loop.example/g00378/impl.errTooLong", "loop.example/g00378/impl.errNotRight", "loop.example/g00378/impl.errNoRoom", "loop.example/g00378/impl.errNoSuch", "loop.example/g00378/impl.errLoop", "loop.example/g00378/impl.errAnother", "loop.example/g00378/impl.errPlace"], ifaces := true, apart := false, laid := [("loop.example/g00378/impl.errTooLong", laid_loop_example_g00378_impl_errTooLong), ("loop.example/g00378/impl.errNotRight", laid_loop_example_g00378_impl_errNotRight), ("loop.example/g00378/impl.errNoSuch", laid_loop_example_g00378_impl_errNoSuch), ("loop.example/g00378/impl.errAnother", laid_loop_example_g00378_impl_errAnother), ("loop.example/g00378/impl.errPlace", laid_loop_example_g00378_impl_errPlace), ("loop.example/g00378/impl.errNoRoom", laid_loop_example_g00378_impl_errNoRoom), ("loop.example/g00378/impl.errLoop", laid_loop_example_g00378_impl_errLoop), ("loop.example/g00378/impl.errNoRecord", laid_loop_example_g00378_impl_errNoRecord)] }
def FnExactClientOfSaid : Prop := fnExactClientOfRow.holds Tryz.pinned (OpenSpec.ofChange fnExactClientOfSpec)

/-- ITS FALSE NEIGHBOUR: 'it returns false'. Refute it at one input. -/
def fnExactClientOfWrong : ChangeSpec := { name := "fnExactClientOf", vars := ["loop.example/g00378/impl.errNoRecord", "loop.example/g00378/impl.errTooLong", "loop.example/g00378/impl.errNotRight", "loop.example/g00378/impl.errNoRoom", "loop.example/g00378/impl.errNoSuch", "loop.example/g00378/impl.errLoop", "loop.example/g00378/impl.errAnother", "loop.example/g00378/impl.errPlace"], fn := fun _ => fun
  | [d1, d2, g1, g2, g3, g4, g5, g6, g7, g8] => { results := [.lit (.bool false)], args := [d1, d2], vars := [g1, g2, g3, g4, g5, g6, g7, g8] }
  | _ => none }
def FnExactClientOfWrongFalsely : Prop := fnExactClientOfRow.holds Tryz.pinned (OpenSpec.ofChange fnExactClientOfWrong)

/-- 'laws.FnExactJournalRight': WHATEVER THE INPUT: true; the input reads as it did. -/
def fnExactJournalRightSpec : ChangeSpec := { name := "fnExactJournalRight", vars := ["loop.example/g00378/impl.errNoRecord", "loop.example/g00378/impl.errTooLong", "loop.example/g00378/impl.errNotRight", "loop.example/g00378/impl.errNoRoom", "loop.example/g00378/impl.errNoSuch", "loop.example/g00378/impl.errLoop", "loop.example/g00378/impl.errAnother", "loop.example/g00378/impl.errPlace"], fn := fun _ => fun
  | [d1, d2, g1, g2, g3, g4, g5, g6, g7, g8] => { results := [.lit (.bool true)], args := [d1, d2], vars := [g1, g2, g3, g4, g5, g6, g7, g8] }
  | _ => none }
def fnExactJournalRightRow : OpenClaim := { program := "ytfkgmkcndchkjaagreatdoor", sum := "09be7b9c0623800786520a4b5627c1edea6f6a0a3728be00e76e0220b4d40341", func := "loop.example/g00378/laws.FnExactJournalRight", spec := "fnExactJournalRight", unfollowed := true, recurses := true, named := ["loop.example/g00378/impl.errNoRecord", "loop.example/g00378/impl.errTooLong", "loop.example/g00378/impl.errNotRight", "loop.example/g00378/impl.errNoRoom", "loop.example/g00378/impl.errNoSuch", "loop.example/g00378/impl.errLoop", "loop.example/g00378/impl.errAnother", "loop.example/g00378/impl.errPlace"], ifaces := true, apart := false, laid := [("loop.example/g00378/impl.errTooLong", laid_loop_example_g00378_impl_errTooLong), ("loop.example/g00378/impl.errNotRight", laid_loop_example_g00378_impl_errNotRight), ("loop.example/g00378/impl.errNoSuch", laid_loop_example_g00378_impl_errNoSuch), ("loop.example/g00378/impl.errAnother", laid_loop_example_g00378_impl_errAnother), ("loop.example/g00378/impl.errPlace", laid_loop_example_g00378_impl_errPlace), ("loop.example/g00378/impl.errNoRoom", laid_loop_example_g00378_impl_errNoRoom), ("loop.example/g00378/impl.errLoop", laid_loop_example_g00378_impl_errLoop), ("loop.example/g00378/impl.errNoRecord", laid_loop_example_g00378_impl_errNoRecord)] }
def FnExactJournalRightSaid : Prop := fnExactJournalRightRow.holds Tryz.pinned (OpenSpec.ofChange fnExactJournalRightSpec)

/-- ITS FALSE NEIGHBOUR: 'it returns false'. Refute it at one input. -/
def fnExactJournalRightWrong : ChangeSpec := { name := "fnExactJournalRight", vars := ["loop.example/g00378/impl.errNoRecord", "loop.example/g00378/impl.errTooLong", "loop.example/g00378/impl.errNotRight", "loop.example/g00378/impl.errNoRoom", "loop.example/g00378/impl.errNoSuch", "loop.example/g00378/impl.errLoop", "loop.example/g00378/impl.errAnother", "loop.example/g00378/impl.errPlace"], fn := fun _ => fun
  | [d1, d2, g1, g2, g3, g4, g5, g6, g7, g8] => { results := [.lit (.bool false)], args := [d1, d2], vars := [g1, g2, g3, g4, g5, g6, g7, g8] }
  | _ => none }
def FnExactJournalRightWrongFalsely : Prop := fnExactJournalRightRow.holds Tryz.pinned (OpenSpec.ofChange fnExactJournalRightWrong)

/-- 'laws.FnExactNoteOp': WHATEVER THE INPUT: true; the input reads as it did. -/
def fnExactNoteOpSpec : ChangeSpec := { name := "fnExactNoteOp", vars := ["loop.example/g00378/impl.errNoRecord", "loop.example/g00378/impl.errTooLong", "loop.example/g00378/impl.errNotRight", "loop.example/g00378/impl.errNoRoom", "loop.example/g00378/impl.errNoSuch", "loop.example/g00378/impl.errLoop", "loop.example/g00378/impl.errAnother", "loop.example/g00378/impl.errPlace"], fn := fun _ => fun
  | [d1, d2, d3, g1, g2, g3, g4, g5, g6, g7, g8] => { results := [.lit (.bool true)], args := [d1, d2, d3], vars := [g1, g2, g3, g4, g5, g6, g7, g8] }
  | _ => none }
def fnExactNoteOpRow : OpenClaim := { program := "ytfkgmkcndchkjaagreatdoor", sum := "09be7b9c0623800786520a4b5627c1edea6f6a0a3728be00e76e0220b4d40341", func := "loop.example/g00378/laws.FnExactNoteOp", spec := "fnExactNoteOp", unfollowed := true, recurses := true, named := ["loop.example/g00378/impl.errNoRecord", "loop.example/g00378/impl.errTooLong", "loop.example/g00378/impl.errNotRight", "loop.example/g00378/impl.errNoRoom", "loop.example/g00378/impl.errNoSuch", "loop.example/g00378/impl.errLoop", "loop.example/g00378/impl.errAnother", "loop.example/g00378/impl.errPlace"], ifaces := true, apart := false, laid := [("loop.example/g00378/impl.errTooLong", laid_loop_example_g00378_impl_errTooLong), ("loop.example/g00378/impl.errNotRight", laid_loop_example_g00378_impl_errNotRight), ("loop.example/g00378/impl.errNoSuch", laid_loop_example_g00378_impl_errNoSuch), ("loop.example/g00378/impl.errAnother", laid_loop_example_g00378_impl_errAnother), ("loop.example/g00378/impl.errPlace", laid_loop_example_g00378_impl_errPlace), ("loop.example/g00378/impl.errNoRoom", laid_loop_example_g00378_impl_errNoRoom), ("loop.example/g00378/impl.errLoop", laid_loop_example_g00378_impl_errLoop), ("loop.example/g00378/impl.errNoRecord", laid_loop_example_g00378_impl_errNoRecord)] }
def FnExactNoteOpSaid : Prop := fnExactNoteOpRow.holds Tryz.pinned (OpenSpec.ofChange fnExactNoteOpSpec)

/-- ITS FALSE NEIGHBOUR: 'it returns false'. Refute it at one input. -/
def fnExactNoteOpWrong : ChangeSpec := { name := "fnExactNoteOp", vars := ["loop.example/g00378/impl.errNoRecord", "loop.example/g00378/impl.errTooLong", "loop.example/g00378/impl.errNotRight", "loop.example/g00378/impl.errNoRoom", "loop.example/g00378/impl.errNoSuch", "loop.example/g00378/impl.errLoop", "loop.example/g00378/impl.errAnother", "loop.example/g00378/impl.errPlace"], fn := fun _ => fun
  | [d1, d2, d3, g1, g2, g3, g4, g5, g6, g7, g8] => { results := [.lit (.bool false)], args := [d1, d2, d3], vars := [g1, g2, g3, g4, g5, g6, g7, g8] }
  | _ => none }
def FnExactNoteOpWrongFalsely : Prop := fnExactNoteOpRow.holds Tryz.pinned (OpenSpec.ofChange fnExactNoteOpWrong)

/-- 'laws.FnExactNoteTake': WHATEVER THE INPUT: true; the input reads as it did. -/
def fnExactNoteTakeSpec : ChangeSpec := { name := "fnExactNoteTake", vars := ["loop.example/g00378/impl.errNoRecord", "loop.example/g00378/impl.errTooLong", "loop.example/g00378/impl.errNotRight", "loop.example/g00378/impl.errNoRoom", "loop.example/g00378/impl.errNoSuch", "loop.example/g00378/impl.errLoop", "loop.example/g00378/impl.errAnother", "loop.example/g00378/impl.errPlace"], fn := fun _ => fun
  | [d1, d2, d3, d4, g1, g2, g3, g4, g5, g6, g7, g8] => { results := [.lit (.bool true)], args := [d1, d2, d3, d4], vars := [g1, g2, g3, g4, g5, g6, g7, g8] }
  | _ => none }
def fnExactNoteTakeRow : OpenClaim := { program := "ytfkgmkcndchkjaagreatdoor", sum := "09be7b9c0623800786520a4b5627c1edea6f6a0a3728be00e76e0220b4d40341", func := "loop.example/g00378/laws.FnExactNoteTake", spec := "fnExactNoteTake", unfollowed := true, recurses := true, named := ["loop.example/g00378/impl.errNoRecord", "loop.example/g00378/impl.errTooLong", "loop.example/g00378/impl.errNotRight", "loop.example/g00378/impl.errNoRoom", "loop.example/g00378/impl.errNoSuch", "loop.example/g00378/impl.errLoop", "loop.example/g00378/impl.errAnother", "loop.example/g00378/impl.errPlace"], ifaces := true, apart := false, laid := [("loop.example/g00378/impl.errTooLong", laid_loop_example_g00378_impl_errTooLong), ("loop.example/g00378/impl.errNotRight", laid_loop_example_g00378_impl_errNotRight), ("loop.example/g00378/impl.errNoSuch", laid_loop_example_g00378_impl_errNoSuch), ("loop.example/g00378/impl.errAnother", laid_loop_example_g00378_impl_errAnother), ("loop.example/g00378/impl.errPlace", laid_loop_example_g00378_impl_errPlace), ("loop.example/g00378/impl.errNoRoom", laid_loop_example_g00378_impl_errNoRoom), ("loop.example/g00378/impl.errLoop", laid_loop_example_g00378_impl_errLoop), ("loop.example/g00378/impl.errNoRecord", laid_loop_example_g00378_impl_errNoRecord)] }
def FnExactNoteTakeSaid : Prop := fnExactNoteTakeRow.holds Tryz.pinned (OpenSpec.ofChange fnExactNoteTakeSpec)

/-- ITS FALSE NEIGHBOUR: 'it returns false'. Refute it at one input. -/
def fnExactNoteTakeWrong : ChangeSpec := { name := "fnExactNoteTake", vars := ["loop.example/g00378/impl.errNoRecord", "loop.example/g00378/impl.errTooLong", "loop.example/g00378/impl.errNotRight", "loop.example/g00378/impl.errNoRoom", "loop.example/g00378/impl.errNoSuch", "loop.example/g00378/impl.errLoop", "loop.example/g00378/impl.errAnother", "loop.example/g00378/impl.errPlace"], fn := fun _ => fun
  | [d1, d2, d3, d4, g1, g2, g3, g4, g5, g6, g7, g8] => { results := [.lit (.bool false)], args := [d1, d2, d3, d4], vars := [g1, g2, g3, g4, g5, g6, g7, g8] }
  | _ => none }
def FnExactNoteTakeWrongFalsely : Prop := fnExactNoteTakeRow.holds Tryz.pinned (OpenSpec.ofChange fnExactNoteTakeWrong)

/- THE SECOND FORM. 'bulk': how many values and letters a reading holds, each counted each time it is reached (what is shared counts as often as it is met; a slice's spare places count too). A statement '..UptoSaid' is the law's where the arguments, and the package variables that the reading takes, are together of bulk at most 1048576: NARROWER than '..Said'. Prove '..Said' where nothing that the law and all that it calls make is longer than what came in: it says more and counts as full. Else prove '..UptoSaid'. A law counts once. -/
mutual
def uptoBulk {H : Type} : DataW H → Nat
  | .lit (.string bytes) => bytes.length + 1
  | .lit _ => 1
  | .nil => 1
  | .ptr d => uptoBulk d + 1
  | .slice elems spare => uptoBulkAll elems + uptoBulkAll spare + 1
  | .agg parts => uptoBulkAll parts + 1
  | .iface _ d => uptoBulk d + 1
  | .map entries => uptoBulkEntries entries + 1
  | .held _ => 1
def uptoBulkAll {H : Type} : List (DataW H) → Nat
  | [] => 0
  | d :: r => uptoBulk d + uptoBulkAll r
def uptoBulkEntries {H : Type} : List (Lit × DataW H) → Nat
  | [] => 0
  | x :: r => uptoBulkEntry x + uptoBulkEntries r
def uptoBulkEntry {H : Type} : Lit × DataW H → Nat
  | (.string bytes, d) => bytes.length + uptoBulk d + 1
  | (_, d) => uptoBulk d + 1
 end
def uptoSmall : (H : Type) → List (DataW H) → Bool := fun _ ds => decide (uptoBulkAll ds ≤ 1048576)
def OpenSpec.upto (s : _root_.Go.ChangeSpec) : _root_.Go.OpenSpec := { _root_.Go.OpenSpec.ofChange s with cond := some uptoSmall }

/-- 'laws.FnExactMove', WHERE WHAT IT READS IS OF BULK AT MOST 1048576: true; the input reads as it did. -/
def fnExactMoveUptoRow : OpenClaim := { program := "ytfkgmkcndchkjaagreatdoor", sum := "09be7b9c0623800786520a4b5627c1edea6f6a0a3728be00e76e0220b4d40341", func := "loop.example/g00378/laws.FnExactMove", spec := "fnExactMove", inPlace := ["internal/reflectlite.TypeOf"], unfollowed := true, recurses := true, named := ["loop.example/g00378/impl.errTooLong", "loop.example/g00378/impl.errNotRight", "loop.example/g00378/impl.errNoRoom", "loop.example/g00378/impl.errNoSuch", "loop.example/g00378/impl.errLoop", "loop.example/g00378/impl.errAnother", "loop.example/g00378/impl.errPlace"], ifaces := true, apart := false, laid := [("loop.example/g00378/impl.errTooLong", laid_loop_example_g00378_impl_errTooLong), ("loop.example/g00378/impl.errNotRight", laid_loop_example_g00378_impl_errNotRight), ("loop.example/g00378/impl.errNoSuch", laid_loop_example_g00378_impl_errNoSuch), ("loop.example/g00378/impl.errAnother", laid_loop_example_g00378_impl_errAnother), ("loop.example/g00378/impl.errPlace", laid_loop_example_g00378_impl_errPlace), ("loop.example/g00378/impl.errNoRoom", laid_loop_example_g00378_impl_errNoRoom), ("loop.example/g00378/impl.errLoop", laid_loop_example_g00378_impl_errLoop)], narrowed := true }
def FnExactMoveUptoSaid : Prop := fnExactMoveUptoRow.holds Tryz.pinned (OpenSpec.upto fnExactMoveSpec)

/-- 'laws.FnExactSet', WHERE WHAT IT READS IS OF BULK AT MOST 1048576: true; the input reads as it did. -/
def fnExactSetUptoRow : OpenClaim := { program := "ytfkgmkcndchkjaagreatdoor", sum := "09be7b9c0623800786520a4b5627c1edea6f6a0a3728be00e76e0220b4d40341", func := "loop.example/g00378/laws.FnExactSet", spec := "fnExactSet", inPlace := ["internal/reflectlite.TypeOf"], unfollowed := true, recurses := true, named := ["loop.example/g00378/impl.errTooLong", "loop.example/g00378/impl.errNotRight", "loop.example/g00378/impl.errNoRoom", "loop.example/g00378/impl.errNoSuch", "loop.example/g00378/impl.errLoop", "loop.example/g00378/impl.errAnother", "loop.example/g00378/impl.errPlace"], ifaces := true, apart := false, laid := [("loop.example/g00378/impl.errTooLong", laid_loop_example_g00378_impl_errTooLong), ("loop.example/g00378/impl.errNotRight", laid_loop_example_g00378_impl_errNotRight), ("loop.example/g00378/impl.errNoSuch", laid_loop_example_g00378_impl_errNoSuch), ("loop.example/g00378/impl.errAnother", laid_loop_example_g00378_impl_errAnother), ("loop.example/g00378/impl.errPlace", laid_loop_example_g00378_impl_errPlace), ("loop.example/g00378/impl.errNoRoom", laid_loop_example_g00378_impl_errNoRoom), ("loop.example/g00378/impl.errLoop", laid_loop_example_g00378_impl_errLoop)], narrowed := true }
def FnExactSetUptoSaid : Prop := fnExactSetUptoRow.holds Tryz.pinned (OpenSpec.upto fnExactSetSpec)

/-- 'laws.FnExactClientOf', WHERE WHAT IT READS IS OF BULK AT MOST 1048576: true; the input reads as it did. -/
def fnExactClientOfUptoRow : OpenClaim := { program := "ytfkgmkcndchkjaagreatdoor", sum := "09be7b9c0623800786520a4b5627c1edea6f6a0a3728be00e76e0220b4d40341", func := "loop.example/g00378/laws.FnExactClientOf", spec := "fnExactClientOf", unfollowed := true, recurses := true, named := ["loop.example/g00378/impl.errNoRecord", "loop.example/g00378/impl.errTooLong", "loop.example/g00378/impl.errNotRight", "loop.example/g00378/impl.errNoRoom", "loop.example/g00378/impl.errNoSuch", "loop.example/g00378/impl.errLoop", "loop.example/g00378/impl.errAnother", "loop.example/g00378/impl.errPlace"], ifaces := true, apart := false, laid := [("loop.example/g00378/impl.errTooLong", laid_loop_example_g00378_impl_errTooLong), ("loop.example/g00378/impl.errNotRight", laid_loop_example_g00378_impl_errNotRight), ("loop.example/g00378/impl.errNoSuch", laid_loop_example_g00378_impl_errNoSuch), ("loop.example/g00378/impl.errAnother", laid_loop_example_g00378_impl_errAnother), ("loop.example/g00378/impl.errPlace", laid_loop_example_g00378_impl_errPlace), ("loop.example/g00378/impl.errNoRoom", laid_loop_example_g00378_impl_errNoRoom), ("loop.example/g00378/impl.errLoop", laid_loop_example_g00378_impl_errLoop), ("loop.example/g00378/impl.errNoRecord", laid_loop_example_g00378_impl_errNoRecord)], narrowed := true }
def FnExactClientOfUptoSaid : Prop := fnExactClientOfUptoRow.holds Tryz.pinned (OpenSpec.upto fnExactClientOfSpec)

/-- 'laws.FnExactJournalRight', WHERE WHAT IT READS IS OF BULK AT MOST 1048576: true; the input reads as it did. -/
def fnExactJournalRightUptoRow : OpenClaim := { program := "ytfkgmkcndchkjaagreatdoor", sum := "09be7b9c0623800786520a4b5627c1edea6f6a0a3728be00e76e0220b4d40341", func := "loop.example/g00378/laws.FnExactJournalRight", spec := "fnExactJournalRight", unfollowed := true, recurses := true, named := ["loop.example/g00378/impl.errNoRecord", "loop.example/g00378/impl.errTooLong", "loop.example/g00378/impl.errNotRight", "loop.example/g00378/impl.errNoRoom", "loop.example/g00378/impl.errNoSuch", "loop.example/g00378/impl.errLoop", "loop.example/g00378/impl.errAnother", "loop.example/g00378/impl.errPlace"], ifaces := true, apart := false, laid := [("loop.example/g00378/impl.errTooLong", laid_loop_example_g00378_impl_errTooLong), ("loop.example/g00378/impl.errNotRight", laid_loop_example_g00378_impl_errNotRight), ("loop.example/g00378/impl.errNoSuch", laid_loop_example_g00378_impl_errNoSuch), ("loop.example/g00378/impl.errAnother", laid_loop_example_g00378_impl_errAnother), ("loop.example/g00378/impl.errPlace", laid_loop_example_g00378_impl_errPlace), ("loop.example/g00378/impl.errNoRoom", laid_loop_example_g00378_impl_errNoRoom), ("loop.example/g00378/impl.errLoop", laid_loop_example_g00378_impl_errLoop), ("loop.example/g00378/impl.errNoRecord", laid_loop_example_g00378_impl_errNoRecord)], narrowed := true }
def FnExactJournalRightUptoSaid : Prop := fnExactJournalRightUptoRow.holds Tryz.pinned (OpenSpec.upto fnExactJournalRightSpec)

/-- 'laws.FnExactNoteOp', WHERE WHAT IT READS IS OF BULK AT MOST 1048576: true; the input reads as it did. -/
def fnExactNoteOpUptoRow : OpenClaim := { program := "ytfkgmkcndchkjaagreatdoor", sum := "09be7b9c0623800786520a4b5627c1edea6f6a0a3728be00e76e0220b4d40341", func := "loop.example/g00378/laws.FnExactNoteOp", spec := "fnExactNoteOp", unfollowed := true, recurses := true, named := ["loop.example/g00378/impl.errNoRecord", "loop.example/g00378/impl.errTooLong", "loop.example/g00378/impl.errNotRight", "loop.example/g00378/impl.errNoRoom", "loop.example/g00378/impl.errNoSuch", "loop.example/g00378/impl.errLoop", "loop.example/g00378/impl.errAnother", "loop.example/g00378/impl.errPlace"], ifaces := true, apart := false, laid := [("loop.example/g00378/impl.errTooLong", laid_loop_example_g00378_impl_errTooLong), ("loop.example/g00378/impl.errNotRight", laid_loop_example_g00378_impl_errNotRight), ("loop.example/g00378/impl.errNoSuch", laid_loop_example_g00378_impl_errNoSuch), ("loop.example/g00378/impl.errAnother", laid_loop_example_g00378_impl_errAnother), ("loop.example/g00378/impl.errPlace", laid_loop_example_g00378_impl_errPlace), ("loop.example/g00378/impl.errNoRoom", laid_loop_example_g00378_impl_errNoRoom), ("loop.example/g00378/impl.errLoop", laid_loop_example_g00378_impl_errLoop), ("loop.example/g00378/impl.errNoRecord", laid_loop_example_g00378_impl_errNoRecord)], narrowed := true }
def FnExactNoteOpUptoSaid : Prop := fnExactNoteOpUptoRow.holds Tryz.pinned (OpenSpec.upto fnExactNoteOpSpec)

/-- 'laws.FnExactNoteTake', WHERE WHAT IT READS IS OF BULK AT MOST 1048576: true; the input reads as it did. -/
def fnExactNoteTakeUptoRow : OpenClaim := { program := "ytfkgmkcndchkjaagreatdoor", sum := "09be7b9c0623800786520a4b5627c1edea6f6a0a3728be00e76e0220b4d40341", func := "loop.example/g00378/laws.FnExactNoteTake", spec := "fnExactNoteTake", unfollowed := true, recurses := true, named := ["loop.example/g00378/impl.errNoRecord", "loop.example/g00378/impl.errTooLong", "loop.example/g00378/impl.errNotRight", "loop.example/g00378/impl.errNoRoom", "loop.example/g00378/impl.errNoSuch", "loop.example/g00378/impl.errLoop", "loop.example/g00378/impl.errAnother", "loop.example/g00378/impl.errPlace"], ifaces := true, apart := false, laid := [("loop.example/g00378/impl.errTooLong", laid_loop_example_g00378_impl_errTooLong), ("loop.example/g00378/impl.errNotRight", laid_loop_example_g00378_impl_errNotRight), ("loop.example/g00378/impl.errNoSuch", laid_loop_example_g00378_impl_errNoSuch), ("loop.example/g00378/impl.errAnother", laid_loop_example_g00378_impl_errAnother), ("loop.example/g00378/impl.errPlace", laid_loop_example_g00378_impl_errPlace), ("loop.example/g00378/impl.errNoRoom", laid_loop_example_g00378_impl_errNoRoom), ("loop.example/g00378/impl.errLoop", laid_loop_example_g00378_impl_errLoop), ("loop.example/g00378/impl.errNoRecord", laid_loop_example_g00378_impl_errNoRecord)], narrowed := true }
def FnExactNoteTakeUptoSaid : Prop := fnExactNoteTakeUptoRow.holds Tryz.pinned (OpenSpec.upto fnExactNoteTakeSpec)

end Rows
end Go.Proofs.YtfkgmkcndchkjaaGreatDoor
