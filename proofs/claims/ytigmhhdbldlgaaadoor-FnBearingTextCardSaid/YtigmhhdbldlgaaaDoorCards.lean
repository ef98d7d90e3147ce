/-
  DERIVED. GIVEN WITH THE SEED: THE CARDS: each row of YtigmhhdbldlgaaaDoorRows.lean that lists a variable, with what it lists TIED to the program's text (the seventh form; the later family's looks); each row that meets fmt, with fmt's text TOLD by the authors' own Lean function (tested against real Go, not proved from fmt's source: count such statements apart). THE CARD IS WHAT COUNTS. Prove the row's statement (the work); the ties are given (YtigmhhdbldlgaaaDoorTie.lean); close each card by the builder's one call (the guide's Derived/Test/ToyasCard.lean, 'card_holds'). Laid BY PROGRAM, IN A SANDBOX (cutbox-door.mjs). By AI agents, Wed Nov 11 2026. No macro, syntax, notation, axiom, sorry.
-/
import Derived.Test.YtigmhhdbldlgaaaDoorRows
import GoSem.ClaimSeven
namespace Go.Proofs.YtigmhhdbldlgaaaDoor
namespace Rows

/-- THE TIED CARD OF 'laws.FnBearingText'. -/
def fnBearingTextCard : Claim7 := { stood := { row := fnBearingTextRow, standIns := [], harness := (true, "bbe572807236bb61160b7c60034fe1ea57933fc855379e50a572ac892cbfd51e"), looks := false }, kinds := [], alts := [], laidByText := true, laidKinds := [.data, .data, .data], laidTests := true, laidLooks := .later }
def FnBearingTextCardSaid : Prop := Claim7.holds Tryd.pinned (.plain (OpenSpec.ofChange fnBearingTextSpec)) fnBearingTextCard

/-- THE TIED CARD OF 'laws.FnExactBearingText'. -/
def fnExactBearingTextCard : Claim7 := { stood := { row := fnExactBearingTextRow, standIns := [], harness := (true, "bbe572807236bb61160b7c60034fe1ea57933fc855379e50a572ac892cbfd51e"), looks := false }, kinds := [], alts := [], laidByText := true, laidKinds := [.data, .data, .data], laidTests := true, laidLooks := .later }
def FnExactBearingTextCardSaid : Prop := Claim7.holds Tryd.pinned (.plain (OpenSpec.ofChange fnExactBearingTextSpec)) fnExactBearingTextCard

/-- THE SECOND FORM's CARD OF 'laws.FnBearingText'. -/
def fnBearingTextUptoCard : Claim7 := { stood := { row := fnBearingTextUptoRow, standIns := [], harness := (true, "bbe572807236bb61160b7c60034fe1ea57933fc855379e50a572ac892cbfd51e"), looks := false }, kinds := [], alts := [], laidByText := true, laidKinds := [.data, .data, .data], laidTests := true, laidLooks := .later }
def FnBearingTextUptoCardSaid : Prop := Claim7.holds Tryd.pinned (.plain (OpenSpec.upto fnBearingTextSpec)) fnBearingTextUptoCard

/-- THE SECOND FORM's CARD OF 'laws.FnExactBearingText'. -/
def fnExactBearingTextUptoCard : Claim7 := { stood := { row := fnExactBearingTextUptoRow, standIns := [], harness := (true, "bbe572807236bb61160b7c60034fe1ea57933fc855379e50a572ac892cbfd51e"), looks := false }, kinds := [], alts := [], laidByText := true, laidKinds := [.data, .data, .data], laidTests := true, laidLooks := .later }
def FnExactBearingTextUptoCardSaid : Prop := Claim7.holds Tryd.pinned (.plain (OpenSpec.upto fnExactBearingTextSpec)) fnExactBearingTextUptoCard
end Rows
end Go.Proofs.YtigmhhdbldlgaaaDoor
