/-
  DERIVED. GIVEN WITH THE SEED: THE CARDS: each row of YtkfjommoogmehaaDoorRows.lean that lists a variable, with what it lists TIED to the program's text (the seventh form; the later family's looks); each row that meets fmt, with fmt's text TOLD by the authors' own Lean function (tested against real Go, not proved from fmt's source: count such statements apart). THE CARD IS WHAT COUNTS. Prove the row's statement (the work); the ties are given (YtkfjommoogmehaaDoorTie.lean); close each card by the builder's one call (the guide's Derived/Test/ToyasCard.lean, 'card_holds'). Laid BY PROGRAM, IN A SANDBOX (cutbox-door.mjs). By AI agents, Wed Nov 11 2026. No macro, syntax, notation, axiom, sorry.
-/
import Derived.Test.YtkfjommoogmehaaDoorRows
import GoSem.ClaimSeven
namespace Go.Proofs.YtkfjommoogmehaaDoor
namespace Rows

/-- THE TIED CARD OF 'laws.FnExactTake'. -/
def fnExactTakeCard : Claim7 := { stood := { row := fnExactTakeRow, standIns := [], harness := (true, "6355f13f0d231d6a5d3484284f3d249645c72f2c62fcc480185f5ce983422743"), looks := true }, kinds := [], alts := [], laidByText := true, laidKinds := [.sentinel, .sentinel, .sentinel, .sentinel, .sentinel, .sentinel, .sentinel], laidTests := true, laidLooks := .later }
def FnExactTakeCardSaid : Prop := Claim7.holds Tryd.pinned (.plain (OpenSpec.ofChange fnExactTakeSpec)) fnExactTakeCard

/-- THE SECOND FORM's CARD OF 'laws.FnExactTake'. -/
def fnExactTakeUptoCard : Claim7 := { stood := { row := fnExactTakeUptoRow, standIns := [], harness := (true, "6355f13f0d231d6a5d3484284f3d249645c72f2c62fcc480185f5ce983422743"), looks := true }, kinds := [], alts := [], laidByText := true, laidKinds := [.sentinel, .sentinel, .sentinel, .sentinel, .sentinel, .sentinel, .sentinel], laidTests := true, laidLooks := .later }
def FnExactTakeUptoCardSaid : Prop := Claim7.holds Tryd.pinned (.plain (OpenSpec.upto fnExactTakeSpec)) fnExactTakeUptoCard
end Rows
end Go.Proofs.YtkfjommoogmehaaDoor
