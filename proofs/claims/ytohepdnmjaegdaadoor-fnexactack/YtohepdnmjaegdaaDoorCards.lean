/-
  DERIVED. GIVEN WITH THE SEED: THE CARDS: each row of YtohepdnmjaegdaaDoorRows.lean that lists a variable, with what it lists TIED to the program's text (the seventh form; the later family's looks); each row that meets fmt, with fmt's text TOLD by the authors' own Lean function (tested against real Go, not proved from fmt's source: count such statements apart). THE CARD IS WHAT COUNTS. Prove the row's statement (the work); the ties are given (YtohepdnmjaegdaaDoorTie.lean); close each card by the builder's one call (the guide's Derived/Test/ToyasCard.lean, 'card_holds'). Laid BY PROGRAM, IN A SANDBOX (cutbox-door.mjs). By AI agents, Wed Nov 11 2026. No macro, syntax, notation, axiom, sorry.
-/
import Derived.Test.YtohepdnmjaegdaaDoorRows
import GoSem.ClaimSeven
namespace Go.Proofs.YtohepdnmjaegdaaDoor
namespace Rows

/-- THE TIED CARD OF 'laws.FnExactTake'. -/
def fnExactTakeCard : Claim7 := { stood := { row := fnExactTakeRow, standIns := [], harness := (true, "0aa84357a2f24126a87169faa5c441c63aa5785fa318d73cc9933cdf065bc5fe"), looks := true }, kinds := [], alts := [], laidByText := true, laidKinds := [.sentinel, .sentinel, .sentinel, .sentinel, .sentinel, .sentinel, .sentinel], laidTests := true, laidLooks := .later }
def FnExactTakeCardSaid : Prop := Claim7.holds Tryd.pinned (.plain (OpenSpec.ofChange fnExactTakeSpec)) fnExactTakeCard

/-- THE TIED CARD OF 'laws.FnExactAck'. -/
def fnExactAckCard : Claim7 := { stood := { row := fnExactAckRow, standIns := [], harness := (true, "0aa84357a2f24126a87169faa5c441c63aa5785fa318d73cc9933cdf065bc5fe"), looks := true }, kinds := [], alts := [], laidByText := true, laidKinds := [.sentinel, .sentinel, .sentinel, .sentinel, .sentinel, .sentinel, .sentinel], laidTests := true, laidLooks := .later }
def FnExactAckCardSaid : Prop := Claim7.holds Tryd.pinned (.plain (OpenSpec.ofChange fnExactAckSpec)) fnExactAckCard

/-- THE SECOND FORM's CARD OF 'laws.FnExactTake'. -/
def fnExactTakeUptoCard : Claim7 := { stood := { row := fnExactTakeUptoRow, standIns := [], harness := (true, "0aa84357a2f24126a87169faa5c441c63aa5785fa318d73cc9933cdf065bc5fe"), looks := true }, kinds := [], alts := [], laidByText := true, laidKinds := [.sentinel, .sentinel, .sentinel, .sentinel, .sentinel, .sentinel, .sentinel], laidTests := true, laidLooks := .later }
def FnExactTakeUptoCardSaid : Prop := Claim7.holds Tryd.pinned (.plain (OpenSpec.upto fnExactTakeSpec)) fnExactTakeUptoCard

/-- THE SECOND FORM's CARD OF 'laws.FnExactAck'. -/
def fnExactAckUptoCard : Claim7 := { stood := { row := fnExactAckUptoRow, standIns := [], harness := (true, "0aa84357a2f24126a87169faa5c441c63aa5785fa318d73cc9933cdf065bc5fe"), looks := true }, kinds := [], alts := [], laidByText := true, laidKinds := [.sentinel, .sentinel, .sentinel, .sentinel, .sentinel, .sentinel, .sentinel], laidTests := true, laidLooks := .later }
def FnExactAckUptoCardSaid : Prop := Claim7.holds Tryd.pinned (.plain (OpenSpec.upto fnExactAckSpec)) fnExactAckUptoCard
end Rows
end Go.Proofs.YtohepdnmjaegdaaDoor
