/-
  DERIVED. GIVEN WITH THE SEED: THE CARDS: each row of YtoaomjchaihkaaaDoorRows.lean that lists a variable, with what it lists TIED to the program's text (the seventh form; the later family's looks); each row that meets fmt, with fmt's text TOLD by the authors' own Lean function (tested against real Go, not proved from fmt's source: count such statements apart). THE CARD IS WHAT COUNTS. Prove the row's statement (the work); the ties are given (YtoaomjchaihkaaaDoorTie.lean); close each card by the builder's one call (the guide's Derived/Test/ToyasCard.lean, 'card_holds'). Laid BY PROGRAM, IN A SANDBOX (cutbox-door.mjs). By AI agents, Wed Nov 11 2026. No macro, syntax, notation, axiom, sorry.
-/
import Derived.Test.YtoaomjchaihkaaaDoorRows
import GoSem.ClaimSeven
namespace Go.Proofs.YtoaomjchaihkaaaDoor
namespace Rows

/-- THE TIED CARD OF 'laws.FnAdjust'. -/
def fnAdjustCard : Claim7 := { stood := { row := fnAdjustRow, standIns := [], harness := (true, "3a892debd554db9ed6561b6d32c5683f33813e0a657a3f305775ae3e9758add6"), looks := true }, kinds := [], alts := [], laidByText := true, laidKinds := [.sentinel], laidTests := true, laidLooks := .later }
def FnAdjustCardSaid : Prop := Claim7.holds Tryd.pinned (.plain (OpenSpec.ofChange fnAdjustSpec)) fnAdjustCard

/-- THE TIED CARD OF 'laws.FnAdjustLeast'. -/
def fnAdjustLeastCard : Claim7 := { stood := { row := fnAdjustLeastRow, standIns := [], harness := (true, "3a892debd554db9ed6561b6d32c5683f33813e0a657a3f305775ae3e9758add6"), looks := true }, kinds := [], alts := [], laidByText := true, laidKinds := [.sentinel], laidTests := true, laidLooks := .later }
def FnAdjustLeastCardSaid : Prop := Claim7.holds Tryd.pinned (.plain (OpenSpec.ofChange fnAdjustLeastSpec)) fnAdjustLeastCard

/-- THE TIED CARD OF 'laws.FnAdjustRest'. -/
def fnAdjustRestCard : Claim7 := { stood := { row := fnAdjustRestRow, standIns := [], harness := (true, "3a892debd554db9ed6561b6d32c5683f33813e0a657a3f305775ae3e9758add6"), looks := true }, kinds := [], alts := [], laidByText := true, laidKinds := [.sentinel], laidTests := true, laidLooks := .later }
def FnAdjustRestCardSaid : Prop := Claim7.holds Tryd.pinned (.plain (OpenSpec.ofChange fnAdjustRestSpec)) fnAdjustRestCard

/-- THE TIED CARD OF 'laws.FnAdjustWeight'. -/
def fnAdjustWeightCard : Claim7 := { stood := { row := fnAdjustWeightRow, standIns := [], harness := (true, "3a892debd554db9ed6561b6d32c5683f33813e0a657a3f305775ae3e9758add6"), looks := true }, kinds := [], alts := [], laidByText := true, laidKinds := [.sentinel], laidTests := true, laidLooks := .later }
def FnAdjustWeightCardSaid : Prop := Claim7.holds Tryd.pinned (.plain (OpenSpec.ofChange fnAdjustWeightSpec)) fnAdjustWeightCard

/-- THE TIED CARD OF 'laws.FnAdjustTwo'. -/
def fnAdjustTwoCard : Claim7 := { stood := { row := fnAdjustTwoRow, standIns := [], harness := (true, "3a892debd554db9ed6561b6d32c5683f33813e0a657a3f305775ae3e9758add6"), looks := true }, kinds := [], alts := [], laidByText := true, laidKinds := [.sentinel], laidTests := true, laidLooks := .later }
def FnAdjustTwoCardSaid : Prop := Claim7.holds Tryd.pinned (.plain (OpenSpec.ofChange fnAdjustTwoSpec)) fnAdjustTwoCard

/-- THE TIED CARD OF 'laws.FnAdjustTrees'. -/
def fnAdjustTreesCard : Claim7 := { stood := { row := fnAdjustTreesRow, standIns := [], harness := (true, "3a892debd554db9ed6561b6d32c5683f33813e0a657a3f305775ae3e9758add6"), looks := true }, kinds := [], alts := [], laidByText := true, laidKinds := [.sentinel], laidTests := true, laidLooks := .later }
def FnAdjustTreesCardSaid : Prop := Claim7.holds Tryd.pinned (.plain (OpenSpec.ofChange fnAdjustTreesSpec)) fnAdjustTreesCard

/-- THE TIED CARD OF 'laws.FnExactAdjustHeights'. -/
def fnExactAdjustHeightsCard : Claim7 := { stood := { row := fnExactAdjustHeightsRow, standIns := [], harness := (true, "3a892debd554db9ed6561b6d32c5683f33813e0a657a3f305775ae3e9758add6"), looks := true }, kinds := [], alts := [], laidByText := true, laidKinds := [.sentinel], laidTests := true, laidLooks := .later }
def FnExactAdjustHeightsCardSaid : Prop := Claim7.holds Tryd.pinned (.plain (OpenSpec.ofChange fnExactAdjustHeightsSpec)) fnExactAdjustHeightsCard

/-- THE TIED CARD OF 'laws.FnExactAdjustRun'. -/
def fnExactAdjustRunCard : Claim7 := { stood := { row := fnExactAdjustRunRow, standIns := [], harness := (true, "3a892debd554db9ed6561b6d32c5683f33813e0a657a3f305775ae3e9758add6"), looks := true }, kinds := [], alts := [], laidByText := true, laidKinds := [.sentinel], laidTests := true, laidLooks := .later }
def FnExactAdjustRunCardSaid : Prop := Claim7.holds Tryd.pinned (.plain (OpenSpec.ofChange fnExactAdjustRunSpec)) fnExactAdjustRunCard

/-- THE SECOND FORM's CARD OF 'laws.FnAdjust'. -/
def fnAdjustUptoCard : Claim7 := { stood := { row := fnAdjustUptoRow, standIns := [], harness := (true, "3a892debd554db9ed6561b6d32c5683f33813e0a657a3f305775ae3e9758add6"), looks := true }, kinds := [], alts := [], laidByText := true, laidKinds := [.sentinel], laidTests := true, laidLooks := .later }
def FnAdjustUptoCardSaid : Prop := Claim7.holds Tryd.pinned (.plain (OpenSpec.upto fnAdjustSpec)) fnAdjustUptoCard

/-- THE SECOND FORM's CARD OF 'laws.FnAdjustLeast'. -/
def fnAdjustLeastUptoCard : Claim7 := { stood := { row := fnAdjustLeastUptoRow, standIns := [], harness := (true, "3a892debd554db9ed6561b6d32c5683f33813e0a657a3f305775ae3e9758add6"), looks := true }, kinds := [], alts := [], laidByText := true, laidKinds := [.sentinel], laidTests := true, laidLooks := .later }
def FnAdjustLeastUptoCardSaid : Prop := Claim7.holds Tryd.pinned (.plain (OpenSpec.upto fnAdjustLeastSpec)) fnAdjustLeastUptoCard

/-- THE SECOND FORM's CARD OF 'laws.FnAdjustRest'. -/
def fnAdjustRestUptoCard : Claim7 := { stood := { row := fnAdjustRestUptoRow, standIns := [], harness := (true, "3a892debd554db9ed6561b6d32c5683f33813e0a657a3f305775ae3e9758add6"), looks := true }, kinds := [], alts := [], laidByText := true, laidKinds := [.sentinel], laidTests := true, laidLooks := .later }
def FnAdjustRestUptoCardSaid : Prop := Claim7.holds Tryd.pinned (.plain (OpenSpec.upto fnAdjustRestSpec)) fnAdjustRestUptoCard

/-- THE SECOND FORM's CARD OF 'laws.FnAdjustWeight'. -/
def fnAdjustWeightUptoCard : Claim7 := { stood := { row := fnAdjustWeightUptoRow, standIns := [], harness := (true, "3a892debd554db9ed6561b6d32c5683f33813e0a657a3f305775ae3e9758add6"), looks := true }, kinds := [], alts := [], laidByText := true, laidKinds := [.sentinel], laidTests := true, laidLooks := .later }
def FnAdjustWeightUptoCardSaid : Prop := Claim7.holds Tryd.pinned (.plain (OpenSpec.upto fnAdjustWeightSpec)) fnAdjustWeightUptoCard

/-- THE SECOND FORM's CARD OF 'laws.FnAdjustTwo'. -/
def fnAdjustTwoUptoCard : Claim7 := { stood := { row := fnAdjustTwoUptoRow, standIns := [], harness := (true, "3a892debd554db9ed6561b6d32c5683f33813e0a657a3f305775ae3e9758add6"), looks := true }, kinds := [], alts := [], laidByText := true, laidKinds := [.sentinel], laidTests := true, laidLooks := .later }
def FnAdjustTwoUptoCardSaid : Prop := Claim7.holds Tryd.pinned (.plain (OpenSpec.upto fnAdjustTwoSpec)) fnAdjustTwoUptoCard

/-- THE SECOND FORM's CARD OF 'laws.FnAdjustTrees'. -/
def fnAdjustTreesUptoCard : Claim7 := { stood := { row := fnAdjustTreesUptoRow, standIns := [], harness := (true, "3a892debd554db9ed6561b6d32c5683f33813e0a657a3f305775ae3e9758add6"), looks := true }, kinds := [], alts := [], laidByText := true, laidKinds := [.sentinel], laidTests := true, laidLooks := .later }
def FnAdjustTreesUptoCardSaid : Prop := Claim7.holds Tryd.pinned (.plain (OpenSpec.upto fnAdjustTreesSpec)) fnAdjustTreesUptoCard

/-- THE SECOND FORM's CARD OF 'laws.FnExactAdjustHeights'. -/
def fnExactAdjustHeightsUptoCard : Claim7 := { stood := { row := fnExactAdjustHeightsUptoRow, standIns := [], harness := (true, "3a892debd554db9ed6561b6d32c5683f33813e0a657a3f305775ae3e9758add6"), looks := true }, kinds := [], alts := [], laidByText := true, laidKinds := [.sentinel], laidTests := true, laidLooks := .later }
def FnExactAdjustHeightsUptoCardSaid : Prop := Claim7.holds Tryd.pinned (.plain (OpenSpec.upto fnExactAdjustHeightsSpec)) fnExactAdjustHeightsUptoCard

/-- THE SECOND FORM's CARD OF 'laws.FnExactAdjustRun'. -/
def fnExactAdjustRunUptoCard : Claim7 := { stood := { row := fnExactAdjustRunUptoRow, standIns := [], harness := (true, "3a892debd554db9ed6561b6d32c5683f33813e0a657a3f305775ae3e9758add6"), looks := true }, kinds := [], alts := [], laidByText := true, laidKinds := [.sentinel], laidTests := true, laidLooks := .later }
def FnExactAdjustRunUptoCardSaid : Prop := Claim7.holds Tryd.pinned (.plain (OpenSpec.upto fnExactAdjustRunSpec)) fnExactAdjustRunUptoCard
end Rows
end Go.Proofs.YtoaomjchaihkaaaDoor
