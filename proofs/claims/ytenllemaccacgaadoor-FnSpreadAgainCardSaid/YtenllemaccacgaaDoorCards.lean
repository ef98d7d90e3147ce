/-
  DERIVED. GIVEN WITH THE SEED: THE CARDS: each row of YtenllemaccacgaaDoorRows.lean that lists a variable, with what it lists TIED to the program's text (the seventh form; the later family's looks); each row that meets fmt, with fmt's text TOLD by the authors' own Lean function (tested against real Go, not proved from fmt's source: count such statements apart). THE CARD IS WHAT COUNTS. Prove the row's statement (the work); the ties are given (YtenllemaccacgaaDoorTie.lean); close each card by the builder's one call (the guide's Derived/Test/ToyasCard.lean, 'card_holds'). Laid BY PROGRAM, IN A SANDBOX (cutbox-door.mjs). By AI agents, Wed Nov 11 2026. No macro, syntax, notation, axiom, sorry.
-/
import Derived.Test.YtenllemaccacgaaDoorRows
import GoSem.ClaimSeven
namespace Go.Proofs.YtenllemaccacgaaDoor
namespace Rows

/-- THE TIED CARD OF 'laws.FnSpreadAgain'. -/
def fnSpreadAgainCard : Claim7 := { stood := { row := fnSpreadAgainRow, standIns := [], harness := (true, "fee66ba1f9b7d867d3cd6388ed4e72e82ec8976c6f4d6f66507882f735304d74"), looks := true }, kinds := [], alts := [], laidByText := true, laidKinds := [.sentinel], laidTests := true, laidLooks := .later }
def FnSpreadAgainCardSaid : Prop := Claim7.holds Tryd.pinned (.plain (OpenSpec.ofChange fnSpreadAgainSpec)) fnSpreadAgainCard

/-- THE SECOND FORM's CARD OF 'laws.FnSpreadAgain'. -/
def fnSpreadAgainUptoCard : Claim7 := { stood := { row := fnSpreadAgainUptoRow, standIns := [], harness := (true, "fee66ba1f9b7d867d3cd6388ed4e72e82ec8976c6f4d6f66507882f735304d74"), looks := true }, kinds := [], alts := [], laidByText := true, laidKinds := [.sentinel], laidTests := true, laidLooks := .later }
def FnSpreadAgainUptoCardSaid : Prop := Claim7.holds Tryd.pinned (.plain (OpenSpec.upto fnSpreadAgainSpec)) fnSpreadAgainUptoCard
end Rows
end Go.Proofs.YtenllemaccacgaaDoor
