/-
  DERIVED. GIVEN WITH THE SEED: THE CARDS: each row of YtoaomjchaihkaaaGreatDoorRows.lean that lists a variable, with what it lists TIED to the program's text (the seventh form; the later family's looks); each row that meets fmt, with fmt's text TOLD by the authors' own Lean function (tested against real Go, not proved from fmt's source: count such statements apart). THE CARD IS WHAT COUNTS. Prove the row's statement (the work); the ties are given (YtoaomjchaihkaaaGreatDoorTie.lean); close each card by the builder's one call (the guide's Derived/Test/ToyasCard.lean, 'card_holds'). Laid BY PROGRAM, IN A SANDBOX (cutbox-door.mjs). By AI agents, Wed Nov 11 2026. No macro, syntax, notation, axiom, sorry.
-/
import Derived.Test.YtoaomjchaihkaaaGreatDoorRows
import GoSem.ClaimSeven
namespace Go.Proofs.YtoaomjchaihkaaaGreatDoor
namespace Rows

/-- THE TIED CARD OF 'laws.FnAdjustFit'. -/
def fnAdjustFitCard : Claim7 := { stood := { row := fnAdjustFitRow, standIns := [], harness := (true, "4d9b599174159988dbc702cc1d2f398416abcf2398958da232b4d6074f4f26f0"), looks := true }, kinds := [], alts := [], laidByText := true, laidKinds := [.sentinel], laidTests := true, laidLooks := .later }
def FnAdjustFitCardSaid : Prop := Claim7.holds Tryz.pinned (.plain (OpenSpec.ofChange fnAdjustFitSpec)) fnAdjustFitCard

/-- THE TIED CARD OF 'laws.FnAdjustRun'. -/
def fnAdjustRunCard : Claim7 := { stood := { row := fnAdjustRunRow, standIns := [], harness := (true, "4d9b599174159988dbc702cc1d2f398416abcf2398958da232b4d6074f4f26f0"), looks := true }, kinds := [], alts := [], laidByText := true, laidKinds := [.sentinel], laidTests := true, laidLooks := .later }
def FnAdjustRunCardSaid : Prop := Claim7.holds Tryz.pinned (.plain (OpenSpec.ofChange fnAdjustRunSpec)) fnAdjustRunCard

/-- THE TIED CARD OF 'laws.FnSpreadBlunder'. -/
def fnSpreadBlunderCard : Claim7 := { stood := { row := fnSpreadBlunderRow, standIns := [], harness := (true, "4d9b599174159988dbc702cc1d2f398416abcf2398958da232b4d6074f4f26f0"), looks := true }, kinds := [], alts := [], laidByText := true, laidKinds := [.sentinel], laidTests := true, laidLooks := .later }
def FnSpreadBlunderCardSaid : Prop := Claim7.holds Tryz.pinned (.plain (OpenSpec.ofChange fnSpreadBlunderSpec)) fnSpreadBlunderCard

/-- THE SECOND FORM's CARD OF 'laws.FnAdjustFit'. -/
def fnAdjustFitUptoCard : Claim7 := { stood := { row := fnAdjustFitUptoRow, standIns := [], harness := (true, "4d9b599174159988dbc702cc1d2f398416abcf2398958da232b4d6074f4f26f0"), looks := true }, kinds := [], alts := [], laidByText := true, laidKinds := [.sentinel], laidTests := true, laidLooks := .later }
def FnAdjustFitUptoCardSaid : Prop := Claim7.holds Tryz.pinned (.plain (OpenSpec.upto fnAdjustFitSpec)) fnAdjustFitUptoCard

/-- THE SECOND FORM's CARD OF 'laws.FnAdjustRun'. -/
def fnAdjustRunUptoCard : Claim7 := { stood := { row := fnAdjustRunUptoRow, standIns := [], harness := (true, "4d9b599174159988dbc702cc1d2f398416abcf2398958da232b4d6074f4f26f0"), looks := true }, kinds := [], alts := [], laidByText := true, laidKinds := [.sentinel], laidTests := true, laidLooks := .later }
def FnAdjustRunUptoCardSaid : Prop := Claim7.holds Tryz.pinned (.plain (OpenSpec.upto fnAdjustRunSpec)) fnAdjustRunUptoCard

/-- THE SECOND FORM's CARD OF 'laws.FnSpreadBlunder'. -/
def fnSpreadBlunderUptoCard : Claim7 := { stood := { row := fnSpreadBlunderUptoRow, standIns := [], harness := (true, "4d9b599174159988dbc702cc1d2f398416abcf2398958da232b4d6074f4f26f0"), looks := true }, kinds := [], alts := [], laidByText := true, laidKinds := [.sentinel], laidTests := true, laidLooks := .later }
def FnSpreadBlunderUptoCardSaid : Prop := Claim7.holds Tryz.pinned (.plain (OpenSpec.upto fnSpreadBlunderSpec)) fnSpreadBlunderUptoCard
end Rows
end Go.Proofs.YtoaomjchaihkaaaGreatDoor
