/-
  DERIVED. GIVEN WITH THE SEED: THE CARDS: each row of YtenllemaccacgaaGreatDoorRows.lean that lists a variable, with what it lists TIED to the program's text (the seventh form; the later family's looks); each row that meets fmt, with fmt's text TOLD by the authors' own Lean function (tested against real Go, not proved from fmt's source: count such statements apart). THE CARD IS WHAT COUNTS. Prove the row's statement (the work); the ties are given (YtenllemaccacgaaGreatDoorTie.lean); close each card by the builder's one call (the guide's Derived/Test/ToyasCard.lean, 'card_holds'). Laid BY PROGRAM, IN A SANDBOX (cutbox-door.mjs). By AI agents, Wed Nov 11 2026. No macro, syntax, notation, axiom, sorry.
-/
import Derived.Test.YtenllemaccacgaaGreatDoorRows
import GoSem.ClaimSeven
namespace Go.Proofs.YtenllemaccacgaaGreatDoor
namespace Rows

/-- THE TIED CARD OF 'laws.FnSpreadBlunderRest'. -/
def fnSpreadBlunderRestCard : Claim7 := { stood := { row := fnSpreadBlunderRestRow, standIns := [], harness := (true, "23c5fc02d3748f0d549d546bed074c12420e67a65c137dd34e3a45fa9b8844b3"), looks := true }, kinds := [], alts := [], laidByText := true, laidKinds := [.sentinel], laidTests := true, laidLooks := .later }
def FnSpreadBlunderRestCardSaid : Prop := Claim7.holds Tryz.pinned (.plain (OpenSpec.ofChange fnSpreadBlunderRestSpec)) fnSpreadBlunderRestCard

/-- THE TIED CARD OF 'laws.FnSpreadBlunder'. -/
def fnSpreadBlunderCard : Claim7 := { stood := { row := fnSpreadBlunderRow, standIns := [], harness := (true, "23c5fc02d3748f0d549d546bed074c12420e67a65c137dd34e3a45fa9b8844b3"), looks := true }, kinds := [], alts := [], laidByText := true, laidKinds := [.sentinel], laidTests := true, laidLooks := .later }
def FnSpreadBlunderCardSaid : Prop := Claim7.holds Tryz.pinned (.plain (OpenSpec.ofChange fnSpreadBlunderSpec)) fnSpreadBlunderCard

/-- THE TIED CARD OF 'laws.FnExactSpreadBlunder'. -/
def fnExactSpreadBlunderCard : Claim7 := { stood := { row := fnExactSpreadBlunderRow, standIns := [], harness := (true, "23c5fc02d3748f0d549d546bed074c12420e67a65c137dd34e3a45fa9b8844b3"), looks := true }, kinds := [], alts := [], laidByText := true, laidKinds := [.sentinel], laidTests := true, laidLooks := .later }
def FnExactSpreadBlunderCardSaid : Prop := Claim7.holds Tryz.pinned (.plain (OpenSpec.ofChange fnExactSpreadBlunderSpec)) fnExactSpreadBlunderCard

/-- THE SECOND FORM's CARD OF 'laws.FnSpreadBlunderRest'. -/
def fnSpreadBlunderRestUptoCard : Claim7 := { stood := { row := fnSpreadBlunderRestUptoRow, standIns := [], harness := (true, "23c5fc02d3748f0d549d546bed074c12420e67a65c137dd34e3a45fa9b8844b3"), looks := true }, kinds := [], alts := [], laidByText := true, laidKinds := [.sentinel], laidTests := true, laidLooks := .later }
def FnSpreadBlunderRestUptoCardSaid : Prop := Claim7.holds Tryz.pinned (.plain (OpenSpec.upto fnSpreadBlunderRestSpec)) fnSpreadBlunderRestUptoCard

/-- THE SECOND FORM's CARD OF 'laws.FnSpreadBlunder'. -/
def fnSpreadBlunderUptoCard : Claim7 := { stood := { row := fnSpreadBlunderUptoRow, standIns := [], harness := (true, "23c5fc02d3748f0d549d546bed074c12420e67a65c137dd34e3a45fa9b8844b3"), looks := true }, kinds := [], alts := [], laidByText := true, laidKinds := [.sentinel], laidTests := true, laidLooks := .later }
def FnSpreadBlunderUptoCardSaid : Prop := Claim7.holds Tryz.pinned (.plain (OpenSpec.upto fnSpreadBlunderSpec)) fnSpreadBlunderUptoCard

/-- THE SECOND FORM's CARD OF 'laws.FnExactSpreadBlunder'. -/
def fnExactSpreadBlunderUptoCard : Claim7 := { stood := { row := fnExactSpreadBlunderUptoRow, standIns := [], harness := (true, "23c5fc02d3748f0d549d546bed074c12420e67a65c137dd34e3a45fa9b8844b3"), looks := true }, kinds := [], alts := [], laidByText := true, laidKinds := [.sentinel], laidTests := true, laidLooks := .later }
def FnExactSpreadBlunderUptoCardSaid : Prop := Claim7.holds Tryz.pinned (.plain (OpenSpec.upto fnExactSpreadBlunderSpec)) fnExactSpreadBlunderUptoCard
end Rows
end Go.Proofs.YtenllemaccacgaaGreatDoor
