/-
  DERIVED. GIVEN WITH THE SEED: THE CARDS: each row of YtfkgmkcndchkjaaGreatDoorRows.lean that lists a variable, with what it lists TIED to the program's text (the seventh form; the later family's looks); each row that meets fmt, with fmt's text TOLD by the authors' own Lean function (tested against real Go, not proved from fmt's source: count such statements apart). THE CARD IS WHAT COUNTS. Prove the row's statement (the work); the ties are given (YtfkgmkcndchkjaaGreatDoorTie.lean); close each card by the builder's one call (the guide's Derived/Test/ToyasCard.lean, 'card_holds'). Laid BY PROGRAM, IN A SANDBOX (cutbox-door.mjs). By AI agents, Wed Nov 11 2026. No macro, syntax, notation, axiom, sorry.
-/
import Derived.Test.YtfkgmkcndchkjaaGreatDoorRows
import GoSem.ClaimSeven
namespace Go.Proofs.YtfkgmkcndchkjaaGreatDoor
namespace Rows

/-- THE TIED CARD OF 'laws.FnExactMove'. -/
def fnExactMoveCard : Claim7 := { stood := { row := fnExactMoveRow, standIns := [], harness := (true, "b6c244ce160ee5b91d5793ee917922d898d33696e5131f2903e4f2ae10d0baf2"), looks := true }, kinds := [], alts := [], laidByText := true, laidKinds := [.sentinel, .sentinel, .sentinel, .sentinel, .sentinel, .sentinel, .sentinel], laidTests := true, laidLooks := .later }
def FnExactMoveCardSaid : Prop := Claim7.holds Tryz.pinned (.plain (OpenSpec.ofChange fnExactMoveSpec)) fnExactMoveCard

/-- THE TIED CARD OF 'laws.FnExactSet'. -/
def fnExactSetCard : Claim7 := { stood := { row := fnExactSetRow, standIns := [], harness := (true, "b6c244ce160ee5b91d5793ee917922d898d33696e5131f2903e4f2ae10d0baf2"), looks := true }, kinds := [], alts := [], laidByText := true, laidKinds := [.sentinel, .sentinel, .sentinel, .sentinel, .sentinel, .sentinel, .sentinel], laidTests := true, laidLooks := .later }
def FnExactSetCardSaid : Prop := Claim7.holds Tryz.pinned (.plain (OpenSpec.ofChange fnExactSetSpec)) fnExactSetCard

/-- THE TIED CARD OF 'laws.FnExactClientOf'. -/
def fnExactClientOfCard : Claim7 := { stood := { row := fnExactClientOfRow, standIns := [], harness := (true, "b6c244ce160ee5b91d5793ee917922d898d33696e5131f2903e4f2ae10d0baf2"), looks := true }, kinds := [], alts := [], laidByText := true, laidKinds := [.sentinel, .sentinel, .sentinel, .sentinel, .sentinel, .sentinel, .sentinel, .sentinel], laidTests := true, laidLooks := .later }
def FnExactClientOfCardSaid : Prop := Claim7.holds Tryz.pinned (.plain (OpenSpec.ofChange fnExactClientOfSpec)) fnExactClientOfCard

/-- THE TIED CARD OF 'laws.FnExactJournalRight'. -/
def fnExactJournalRightCard : Claim7 := { stood := { row := fnExactJournalRightRow, standIns := [], harness := (true, "b6c244ce160ee5b91d5793ee917922d898d33696e5131f2903e4f2ae10d0baf2"), looks := true }, kinds := [], alts := [], laidByText := true, laidKinds := [.sentinel, .sentinel, .sentinel, .sentinel, .sentinel, .sentinel, .sentinel, .sentinel], laidTests := true, laidLooks := .later }
def FnExactJournalRightCardSaid : Prop := Claim7.holds Tryz.pinned (.plain (OpenSpec.ofChange fnExactJournalRightSpec)) fnExactJournalRightCard

/-- THE TIED CARD OF 'laws.FnExactNoteOp'. -/
def fnExactNoteOpCard : Claim7 := { stood := { row := fnExactNoteOpRow, standIns := [], harness := (true, "b6c244ce160ee5b91d5793ee917922d898d33696e5131f2903e4f2ae10d0baf2"), looks := true }, kinds := [], alts := [], laidByText := true, laidKinds := [.sentinel, .sentinel, .sentinel, .sentinel, .sentinel, .sentinel, .sentinel, .sentinel], laidTests := true, laidLooks := .later }
def FnExactNoteOpCardSaid : Prop := Claim7.holds Tryz.pinned (.plain (OpenSpec.ofChange fnExactNoteOpSpec)) fnExactNoteOpCard

/-- THE TIED CARD OF 'laws.FnExactNoteTake'. -/
def fnExactNoteTakeCard : Claim7 := { stood := { row := fnExactNoteTakeRow, standIns := [], harness := (true, "b6c244ce160ee5b91d5793ee917922d898d33696e5131f2903e4f2ae10d0baf2"), looks := true }, kinds := [], alts := [], laidByText := true, laidKinds := [.sentinel, .sentinel, .sentinel, .sentinel, .sentinel, .sentinel, .sentinel, .sentinel], laidTests := true, laidLooks := .later }
def FnExactNoteTakeCardSaid : Prop := Claim7.holds Tryz.pinned (.plain (OpenSpec.ofChange fnExactNoteTakeSpec)) fnExactNoteTakeCard

/-- THE SECOND FORM's CARD OF 'laws.FnExactMove'. -/
def fnExactMoveUptoCard : Claim7 := { stood := { row := fnExactMoveUptoRow, standIns := [], harness := (true, "b6c244ce160ee5b91d5793ee917922d898d33696e5131f2903e4f2ae10d0baf2"), looks := true }, kinds := [], alts := [], laidByText := true, laidKinds := [.sentinel, .sentinel, .sentinel, .sentinel, .sentinel, .sentinel, .sentinel], laidTests := true, laidLooks := .later }
def FnExactMoveUptoCardSaid : Prop := Claim7.holds Tryz.pinned (.plain (OpenSpec.upto fnExactMoveSpec)) fnExactMoveUptoCard

/-- THE SECOND FORM's CARD OF 'laws.FnExactSet'. -/
def fnExactSetUptoCard : Claim7 := { stood := { row := fnExactSetUptoRow, standIns := [], harness := (true, "b6c244ce160ee5b91d5793ee917922d898d33696e5131f2903e4f2ae10d0baf2"), looks := true }, kinds := [], alts := [], laidByText := true, laidKinds := [.sentinel, .sentinel, .sentinel, .sentinel, .sentinel, .sentinel, .sentinel], laidTests := true, laidLooks := .later }
def FnExactSetUptoCardSaid : Prop := Claim7.holds Tryz.pinned (.plain (OpenSpec.upto fnExactSetSpec)) fnExactSetUptoCard

/-- THE SECOND FORM's CARD OF 'laws.FnExactClientOf'. -/
def fnExactClientOfUptoCard : Claim7 := { stood := { row := fnExactClientOfUptoRow, standIns := [], harness := (true, "b6c244ce160ee5b91d5793ee917922d898d33696e5131f2903e4f2ae10d0baf2"), looks := true }, kinds := [], alts := [], laidByText := true, laidKinds := [.sentinel, .sentinel, .sentinel, .sentinel, .sentinel, .sentinel, .sentinel, .sentinel], laidTests := true, laidLooks := .later }
def FnExactClientOfUptoCardSaid : Prop := Claim7.holds Tryz.pinned (.plain (OpenSpec.upto fnExactClientOfSpec)) fnExactClientOfUptoCard

/-- THE SECOND FORM's CARD OF 'laws.FnExactJournalRight'. -/
def fnExactJournalRightUptoCard : Claim7 := { stood := { row := fnExactJournalRightUptoRow, standIns := [], harness := (true, "b6c244ce160ee5b91d5793ee917922d898d33696e5131f2903e4f2ae10d0baf2"), looks := true }, kinds := [], alts := [], laidByText := true, laidKinds := [.sentinel, .sentinel, .sentinel, .sentinel, .sentinel, .sentinel, .sentinel, .sentinel], laidTests := true, laidLooks := .later }
def FnExactJournalRightUptoCardSaid : Prop := Claim7.holds Tryz.pinned (.plain (OpenSpec.upto fnExactJournalRightSpec)) fnExactJournalRightUptoCard

/-- THE SECOND FORM's CARD OF 'laws.FnExactNoteOp'. -/
def fnExactNoteOpUptoCard : Claim7 := { stood := { row := fnExactNoteOpUptoRow, standIns := [], harness := (true, "b6c244ce160ee5b91d5793ee917922d898d33696e5131f2903e4f2ae10d0baf2"), looks := true }, kinds := [], alts := [], laidByText := true, laidKinds := [.sentinel, .sentinel, .sentinel, .sentinel, .sentinel, .sentinel, .sentinel, .sentinel], laidTests := true, laidLooks := .later }
def FnExactNoteOpUptoCardSaid : Prop := Claim7.holds Tryz.pinned (.plain (OpenSpec.upto fnExactNoteOpSpec)) fnExactNoteOpUptoCard

/-- THE SECOND FORM's CARD OF 'laws.FnExactNoteTake'. -/
def fnExactNoteTakeUptoCard : Claim7 := { stood := { row := fnExactNoteTakeUptoRow, standIns := [], harness := (true, "b6c244ce160ee5b91d5793ee917922d898d33696e5131f2903e4f2ae10d0baf2"), looks := true }, kinds := [], alts := [], laidByText := true, laidKinds := [.sentinel, .sentinel, .sentinel, .sentinel, .sentinel, .sentinel, .sentinel, .sentinel], laidTests := true, laidLooks := .later }
def FnExactNoteTakeUptoCardSaid : Prop := Claim7.holds Tryz.pinned (.plain (OpenSpec.upto fnExactNoteTakeSpec)) fnExactNoteTakeUptoCard
end Rows
end Go.Proofs.YtfkgmkcndchkjaaGreatDoor
