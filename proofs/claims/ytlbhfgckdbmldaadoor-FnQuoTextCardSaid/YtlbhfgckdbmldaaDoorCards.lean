/-
  DERIVED. GIVEN WITH THE SEED: THE CARDS: each row of YtlbhfgckdbmldaaDoorRows.lean that lists a variable, with what it lists TIED to the program's text (the seventh form; the later family's looks); each row that meets fmt, with fmt's text TOLD by the authors' own Lean function (tested against real Go, not proved from fmt's source: count such statements apart). THE CARD IS WHAT COUNTS. Prove the row's statement (the work); the ties are given (YtlbhfgckdbmldaaDoorTie.lean); close each card by the builder's one call (the guide's Derived/Test/ToyasCard.lean, 'card_holds'). Laid BY PROGRAM, IN A SANDBOX (cutbox-door.mjs). By AI agents, Wed Nov 11 2026. No macro, syntax, notation, axiom, sorry.
-/
import Derived.Test.YtlbhfgckdbmldaaDoorRows
import GoSem.ClaimSeven
namespace Go.Proofs.YtlbhfgckdbmldaaDoor
namespace Rows

/-- THE TIED CARD OF 'laws.FnQuoText'. -/
def fnQuoTextCard : Claim7 := { stood := { row := fnQuoTextRow, standIns := [], harness := (true, "05d048b7491830a1a754b1f98687a4f60e56e973b2cb545aa59d62a94c48361d"), looks := true }, kinds := [], alts := [], laidByText := true, laidKinds := [.data, .data, .data], laidTests := true, laidLooks := .later }
def FnQuoTextCardSaid : Prop := Claim7.holds Tryd.pinned (.plain (OpenSpec.ofChange fnQuoTextSpec)) fnQuoTextCard

/-- THE TIED CARD OF 'laws.FnExactQuoText'. -/
def fnExactQuoTextCard : Claim7 := { stood := { row := fnExactQuoTextRow, standIns := [], harness := (true, "05d048b7491830a1a754b1f98687a4f60e56e973b2cb545aa59d62a94c48361d"), looks := true }, kinds := [], alts := [], laidByText := true, laidKinds := [.data, .data, .data], laidTests := true, laidLooks := .later }
def FnExactQuoTextCardSaid : Prop := Claim7.holds Tryd.pinned (.plain (OpenSpec.ofChange fnExactQuoTextSpec)) fnExactQuoTextCard

/-- THE SECOND FORM's CARD OF 'laws.FnQuoText'. -/
def fnQuoTextUptoCard : Claim7 := { stood := { row := fnQuoTextUptoRow, standIns := [], harness := (true, "05d048b7491830a1a754b1f98687a4f60e56e973b2cb545aa59d62a94c48361d"), looks := true }, kinds := [], alts := [], laidByText := true, laidKinds := [.data, .data, .data], laidTests := true, laidLooks := .later }
def FnQuoTextUptoCardSaid : Prop := Claim7.holds Tryd.pinned (.plain (OpenSpec.upto fnQuoTextSpec)) fnQuoTextUptoCard

/-- THE SECOND FORM's CARD OF 'laws.FnExactQuoText'. -/
def fnExactQuoTextUptoCard : Claim7 := { stood := { row := fnExactQuoTextUptoRow, standIns := [], harness := (true, "05d048b7491830a1a754b1f98687a4f60e56e973b2cb545aa59d62a94c48361d"), looks := true }, kinds := [], alts := [], laidByText := true, laidKinds := [.data, .data, .data], laidTests := true, laidLooks := .later }
def FnExactQuoTextUptoCardSaid : Prop := Claim7.holds Tryd.pinned (.plain (OpenSpec.upto fnExactQuoTextSpec)) fnExactQuoTextUptoCard
end Rows
end Go.Proofs.YtlbhfgckdbmldaaDoor
