/-
  No cell of these rows narrows 'for every input' (looked for: loops, veiled, ifaces, maps, wideKeys, modest, calm, conditions, laid).
  DERIVED. THE GIVEN ROWS OF THIS SEAT. 15 by the template 'for every input the law returns true; each argument reads behind the call as it read before'; 0 by the template 'total and deterministic' (their statements: YtegcjdcinebleaaTotals.lean).
  GIVEN WITH THE SEED: the statements are not yours to turn. If you find one false, say at which input.
  Laid BY PROGRAM, IN A SANDBOX (cutbox-rows.mjs): the forced cells as the released guide's own fill.sh prints them over the translation 57076ba13c7e85a8… (all of the seat's roots in one cut). By AI agents, Wed Nov 11 2026. No macro, syntax, notation, axiom, sorry.
-/
import Derived.Test.YtegcjdcinebleaaChecked
import GoSem.Claim
import GoSem.ClaimJoined
import GoSem.ClaimMapViews
import Derived.JoinedTies
import Derived.KernelRfl
namespace Go.Proofs.Ytegcjdcinebleaa
/- THE CELL 'sum', in the pinned program and in every row, IS THE sha256 OF THE DUMP (.gsa) THAT YtegcjdcinebleaaProg.lean LOADS. Nothing in Lean hashes anything: it is a label: what it is worth is what the hold of that sum in a sandbox is worth. -/
noncomputable def Try.pinned : Pinned := { name := "ytegcjdcinebleaa", sum := "57076ba13c7e85a8fd9d8f123d5294a327335551c692bf5069481abd37fafa2d", checked := Try.checked }
namespace Rows
def none {H : Type} : Left H := { results := [], args := [] }

/-- 'laws.FnPoly': WHATEVER THE INPUT: true; the input reads as it did. -/
def fnPolySpec : ChangeSpec := { name := "fnPoly", fn := fun _ => fun
  | [d1, d2] => { results := [.lit (.bool true)], args := [d1, d2] }
  | _ => none }
def fnPolyRow : OpenClaim := { program := "ytegcjdcinebleaa", sum := "57076ba13c7e85a8fd9d8f123d5294a327335551c692bf5069481abd37fafa2d", func := "loop.example/levellingnet/laws.FnPoly", spec := "fnPoly", unfollowed := true, recurses := true, apart := false }
def FnPolySaid : Prop := fnPolyRow.holds Try.pinned (OpenSpec.ofChange fnPolySpec)

/-- ITS FALSE NEIGHBOUR: 'it returns false'. Refute it at one input. -/
def fnPolyWrong : ChangeSpec := { name := "fnPoly", fn := fun _ => fun
  | [d1, d2] => { results := [.lit (.bool false)], args := [d1, d2] }
  | _ => none }
def FnPolyWrongFalsely : Prop := fnPolyRow.holds Try.pinned (OpenSpec.ofChange fnPolyWrong)

/-- 'laws.FnPick': WHATEVER THE INPUT: true; the input reads as it did. -/
def fnPickSpec : ChangeSpec := { name := "fnPick", fn := fun _ => fun
  | [d] => { results := [.lit (.bool true)], args := [d] }
  | _ => none }
def fnPickRow : OpenClaim := { program := "ytegcjdcinebleaa", sum := "57076ba13c7e85a8fd9d8f123d5294a327335551c692bf5069481abd37fafa2d", func := "loop.example/levellingnet/laws.FnPick", spec := "fnPick", unfollowed := true, recurses := true, apart := false }
def FnPickSaid : Prop := fnPickRow.holds Try.pinned (OpenSpec.ofChange fnPickSpec)

/-- ITS FALSE NEIGHBOUR: 'it returns false'. Refute it at one input. -/
def fnPickWrong : ChangeSpec := { name := "fnPick", fn := fun _ => fun
  | [d] => { results := [.lit (.bool false)], args := [d] }
  | _ => none }
def FnPickWrongFalsely : Prop := fnPickRow.holds Try.pinned (OpenSpec.ofChange fnPickWrong)

/-- 'laws.FnPolyConvex': WHATEVER THE INPUT: true; the input reads as it did. -/
def fnPolyConvexSpec : ChangeSpec := { name := "fnPolyConvex", fn := fun _ => fun
  | [d1, d2] => { results := [.lit (.bool true)], args := [d1, d2] }
  | _ => none }
def fnPolyConvexRow : OpenClaim := { program := "ytegcjdcinebleaa", sum := "57076ba13c7e85a8fd9d8f123d5294a327335551c692bf5069481abd37fafa2d", func := "loop.example/levellingnet/laws.FnPolyConvex", spec := "fnPolyConvex", unfollowed := true, recurses := true, apart := false }
def FnPolyConvexSaid : Prop := fnPolyConvexRow.holds Try.pinned (OpenSpec.ofChange fnPolyConvexSpec)

/-- ITS FALSE NEIGHBOUR: 'it returns false'. Refute it at one input. -/
def fnPolyConvexWrong : ChangeSpec := { name := "fnPolyConvex", fn := fun _ => fun
  | [d1, d2] => { results := [.lit (.bool false)], args := [d1, d2] }
  | _ => none }
def FnPolyConvexWrongFalsely : Prop := fnPolyConvexRow.holds Try.pinned (OpenSpec.ofChange fnPolyConvexWrong)

/-- 'laws.FnParcel': WHATEVER THE INPUT: true; the input reads as it did. -/
def fnParcelSpec : ChangeSpec := { name := "fnParcel", fn := fun _ => fun
  | [d] => { results := [.lit (.bool true)], args := [d] }
  | _ => none }
def fnParcelRow : OpenClaim := { program := "ytegcjdcinebleaa", sum := "57076ba13c7e85a8fd9d8f123d5294a327335551c692bf5069481abd37fafa2d", func := "loop.example/levellingnet/laws.FnParcel", spec := "fnParcel", unfollowed := true, recurses := true, apart := false }
def FnParcelSaid : Prop := fnParcelRow.holds Try.pinned (OpenSpec.ofChange fnParcelSpec)

/-- ITS FALSE NEIGHBOUR: 'it returns false'. Refute it at one input. -/
def fnParcelWrong : ChangeSpec := { name := "fnParcel", fn := fun _ => fun
  | [d] => { results := [.lit (.bool false)], args := [d] }
  | _ => none }
def FnParcelWrongFalsely : Prop := fnParcelRow.holds Try.pinned (OpenSpec.ofChange fnParcelWrong)

/-- 'laws.FnSplit': WHATEVER THE INPUT: true; the input reads as it did. -/
def fnSplitSpec : ChangeSpec := { name := "fnSplit", fn := fun _ => fun
  | [d] => { results := [.lit (.bool true)], args := [d] }
  | _ => none }
def fnSplitRow : OpenClaim := { program := "ytegcjdcinebleaa", sum := "57076ba13c7e85a8fd9d8f123d5294a327335551c692bf5069481abd37fafa2d", func := "loop.example/levellingnet/laws.FnSplit", spec := "fnSplit", unfollowed := true, recurses := true, apart := false }
def FnSplitSaid : Prop := fnSplitRow.holds Try.pinned (OpenSpec.ofChange fnSplitSpec)

/-- ITS FALSE NEIGHBOUR: 'it returns false'. Refute it at one input. -/
def fnSplitWrong : ChangeSpec := { name := "fnSplit", fn := fun _ => fun
  | [d] => { results := [.lit (.bool false)], args := [d] }
  | _ => none }
def FnSplitWrongFalsely : Prop := fnSplitRow.holds Try.pinned (OpenSpec.ofChange fnSplitWrong)

/-- 'laws.FnSplitPlace': WHATEVER THE INPUT: true; the input reads as it did. -/
def fnSplitPlaceSpec : ChangeSpec := { name := "fnSplitPlace", fn := fun _ => fun
  | [d1, d2] => { results := [.lit (.bool true)], args := [d1, d2] }
  | _ => none }
def fnSplitPlaceRow : OpenClaim := { program := "ytegcjdcinebleaa", sum := "57076ba13c7e85a8fd9d8f123d5294a327335551c692bf5069481abd37fafa2d", func := "loop.example/levellingnet/laws.FnSplitPlace", spec := "fnSplitPlace", unfollowed := true, recurses := true, apart := false }
def FnSplitPlaceSaid : Prop := fnSplitPlaceRow.holds Try.pinned (OpenSpec.ofChange fnSplitPlaceSpec)

/-- ITS FALSE NEIGHBOUR: 'it returns false'. Refute it at one input. -/
def fnSplitPlaceWrong : ChangeSpec := { name := "fnSplitPlace", fn := fun _ => fun
  | [d1, d2] => { results := [.lit (.bool false)], args := [d1, d2] }
  | _ => none }
def FnSplitPlaceWrongFalsely : Prop := fnSplitPlaceRow.holds Try.pinned (OpenSpec.ofChange fnSplitPlaceWrong)

/-- 'laws.FnShareParcel': WHATEVER THE INPUT: true; the input reads as it did. -/
def fnShareParcelSpec : ChangeSpec := { name := "fnShareParcel", fn := fun _ => fun
  | [d] => { results := [.lit (.bool true)], args := [d] }
  | _ => none }
def fnShareParcelRow : OpenClaim := { program := "ytegcjdcinebleaa", sum := "57076ba13c7e85a8fd9d8f123d5294a327335551c692bf5069481abd37fafa2d", func := "loop.example/levellingnet/laws.FnShareParcel", spec := "fnShareParcel", unfollowed := true, recurses := true, apart := false }
def FnShareParcelSaid : Prop := fnShareParcelRow.holds Try.pinned (OpenSpec.ofChange fnShareParcelSpec)

/-- ITS FALSE NEIGHBOUR: 'it returns false'. Refute it at one input. -/
def fnShareParcelWrong : ChangeSpec := { name := "fnShareParcel", fn := fun _ => fun
  | [d] => { results := [.lit (.bool false)], args := [d] }
  | _ => none }
def FnShareParcelWrongFalsely : Prop := fnShareParcelRow.holds Try.pinned (OpenSpec.ofChange fnShareParcelWrong)

/-- 'laws.FnMarks': WHATEVER THE INPUT: true; the input reads as it did. -/
def fnMarksSpec : ChangeSpec := { name := "fnMarks", fn := fun _ => fun
  | [d] => { results := [.lit (.bool true)], args := [d] }
  | _ => none }
def fnMarksRow : OpenClaim := { program := "ytegcjdcinebleaa", sum := "57076ba13c7e85a8fd9d8f123d5294a327335551c692bf5069481abd37fafa2d", func := "loop.example/levellingnet/laws.FnMarks", spec := "fnMarks", unfollowed := true, recurses := true, apart := false }
def FnMarksSaid : Prop := fnMarksRow.holds Try.pinned (OpenSpec.ofChange fnMarksSpec)

/-- ITS FALSE NEIGHBOUR: 'it returns false'. Refute it at one input. -/
def fnMarksWrong : ChangeSpec := { name := "fnMarks", fn := fun _ => fun
  | [d] => { results := [.lit (.bool false)], args := [d] }
  | _ => none }
def FnMarksWrongFalsely : Prop := fnMarksRow.holds Try.pinned (OpenSpec.ofChange fnMarksWrong)

/-- 'laws.FnCommon': WHATEVER THE INPUT: true; the input reads as it did. -/
def fnCommonSpec : ChangeSpec := { name := "fnCommon", fn := fun _ => fun
  | [d] => { results := [.lit (.bool true)], args := [d] }
  | _ => none }
def fnCommonRow : OpenClaim := { program := "ytegcjdcinebleaa", sum := "57076ba13c7e85a8fd9d8f123d5294a327335551c692bf5069481abd37fafa2d", func := "loop.example/levellingnet/laws.FnCommon", spec := "fnCommon", unfollowed := true, recurses := true, apart := false }
def FnCommonSaid : Prop := fnCommonRow.holds Try.pinned (OpenSpec.ofChange fnCommonSpec)

/-- ITS FALSE NEIGHBOUR: 'it returns false'. Refute it at one input. -/
def fnCommonWrong : ChangeSpec := { name := "fnCommon", fn := fun _ => fun
  | [d] => { results := [.lit (.bool false)], args := [d] }
  | _ => none }
def FnCommonWrongFalsely : Prop := fnCommonRow.holds Try.pinned (OpenSpec.ofChange fnCommonWrong)

/-- 'laws.FnExactPolyConvex': WHATEVER THE INPUT: true; the input reads as it did. -/
def fnExactPolyConvexSpec : ChangeSpec := { name := "fnExactPolyConvex", fn := fun _ => fun
  | [d] => { results := [.lit (.bool true)], args := [d] }
  | _ => none }
def fnExactPolyConvexRow : OpenClaim := { program := "ytegcjdcinebleaa", sum := "57076ba13c7e85a8fd9d8f123d5294a327335551c692bf5069481abd37fafa2d", func := "loop.example/levellingnet/laws.FnExactPolyConvex", spec := "fnExactPolyConvex", unfollowed := true, recurses := true, apart := false }
def FnExactPolyConvexSaid : Prop := fnExactPolyConvexRow.holds Try.pinned (OpenSpec.ofChange fnExactPolyConvexSpec)

/-- ITS FALSE NEIGHBOUR: 'it returns false'. Refute it at one input. -/
def fnExactPolyConvexWrong : ChangeSpec := { name := "fnExactPolyConvex", fn := fun _ => fun
  | [d] => { results := [.lit (.bool false)], args := [d] }
  | _ => none }
def FnExactPolyConvexWrongFalsely : Prop := fnExactPolyConvexRow.holds Try.pinned (OpenSpec.ofChange fnExactPolyConvexWrong)

/-- 'laws.FnExactParcelValid': WHATEVER THE INPUT: true; the input reads as it did. -/
def fnExactParcelValidSpec : ChangeSpec := { name := "fnExactParcelValid", fn := fun _ => fun
  | [d] => { results := [.lit (.bool true)], args := [d] }
  | _ => none }
def fnExactParcelValidRow : OpenClaim := { program := "ytegcjdcinebleaa", sum := "57076ba13c7e85a8fd9d8f123d5294a327335551c692bf5069481abd37fafa2d", func := "loop.example/levellingnet/laws.FnExactParcelValid", spec := "fnExactParcelValid", unfollowed := true, recurses := true, apart := false }
def FnExactParcelValidSaid : Prop := fnExactParcelValidRow.holds Try.pinned (OpenSpec.ofChange fnExactParcelValidSpec)

/-- ITS FALSE NEIGHBOUR: 'it returns false'. Refute it at one input. -/
def fnExactParcelValidWrong : ChangeSpec := { name := "fnExactParcelValid", fn := fun _ => fun
  | [d] => { results := [.lit (.bool false)], args := [d] }
  | _ => none }
def FnExactParcelValidWrongFalsely : Prop := fnExactParcelValidRow.holds Try.pinned (OpenSpec.ofChange fnExactParcelValidWrong)

/-- 'laws.FnExactParcelSplit': WHATEVER THE INPUT: true; the input reads as it did. -/
def fnExactParcelSplitSpec : ChangeSpec := { name := "fnExactParcelSplit", fn := fun _ => fun
  | [d1, d2, d3] => { results := [.lit (.bool true)], args := [d1, d2, d3] }
  | _ => none }
def fnExactParcelSplitRow : OpenClaim := { program := "ytegcjdcinebleaa", sum := "57076ba13c7e85a8fd9d8f123d5294a327335551c692bf5069481abd37fafa2d", func := "loop.example/levellingnet/laws.FnExactParcelSplit", spec := "fnExactParcelSplit", unfollowed := true, recurses := true, apart := false }
def FnExactParcelSplitSaid : Prop := fnExactParcelSplitRow.holds Try.pinned (OpenSpec.ofChange fnExactParcelSplitSpec)

/-- ITS FALSE NEIGHBOUR: 'it returns false'. Refute it at one input. -/
def fnExactParcelSplitWrong : ChangeSpec := { name := "fnExactParcelSplit", fn := fun _ => fun
  | [d1, d2, d3] => { results := [.lit (.bool false)], args := [d1, d2, d3] }
  | _ => none }
def FnExactParcelSplitWrongFalsely : Prop := fnExactParcelSplitRow.holds Try.pinned (OpenSpec.ofChange fnExactParcelSplitWrong)

/-- 'laws.FnExactParcelShare': WHATEVER THE INPUT: true; the input reads as it did. -/
def fnExactParcelShareSpec : ChangeSpec := { name := "fnExactParcelShare", fn := fun _ => fun
  | [d1, d2, d3] => { results := [.lit (.bool true)], args := [d1, d2, d3] }
  | _ => none }
def fnExactParcelShareRow : OpenClaim := { program := "ytegcjdcinebleaa", sum := "57076ba13c7e85a8fd9d8f123d5294a327335551c692bf5069481abd37fafa2d", func := "loop.example/levellingnet/laws.FnExactParcelShare", spec := "fnExactParcelShare", unfollowed := true, recurses := true, apart := false }
def FnExactParcelShareSaid : Prop := fnExactParcelShareRow.holds Try.pinned (OpenSpec.ofChange fnExactParcelShareSpec)

/-- ITS FALSE NEIGHBOUR: 'it returns false'. Refute it at one input. -/
def fnExactParcelShareWrong : ChangeSpec := { name := "fnExactParcelShare", fn := fun _ => fun
  | [d1, d2, d3] => { results := [.lit (.bool false)], args := [d1, d2, d3] }
  | _ => none }
def FnExactParcelShareWrongFalsely : Prop := fnExactParcelShareRow.holds Try.pinned (OpenSpec.ofChange fnExactParcelShareWrong)

/-- 'laws.FnExactParcelMarks': WHATEVER THE INPUT: true; the input reads as it did. -/
def fnExactParcelMarksSpec : ChangeSpec := { name := "fnExactParcelMarks", fn := fun _ => fun
  | [d] => { results := [.lit (.bool true)], args := [d] }
  | _ => none }
def fnExactParcelMarksRow : OpenClaim := { program := "ytegcjdcinebleaa", sum := "57076ba13c7e85a8fd9d8f123d5294a327335551c692bf5069481abd37fafa2d", func := "loop.example/levellingnet/laws.FnExactParcelMarks", spec := "fnExactParcelMarks", unfollowed := true, recurses := true, apart := false }
def FnExactParcelMarksSaid : Prop := fnExactParcelMarksRow.holds Try.pinned (OpenSpec.ofChange fnExactParcelMarksSpec)

/-- ITS FALSE NEIGHBOUR: 'it returns false'. Refute it at one input. -/
def fnExactParcelMarksWrong : ChangeSpec := { name := "fnExactParcelMarks", fn := fun _ => fun
  | [d] => { results := [.lit (.bool false)], args := [d] }
  | _ => none }
def FnExactParcelMarksWrongFalsely : Prop := fnExactParcelMarksRow.holds Try.pinned (OpenSpec.ofChange fnExactParcelMarksWrong)

/-- 'laws.FnExactParcelCommon': WHATEVER THE INPUT: true; the input reads as it did. -/
def fnExactParcelCommonSpec : ChangeSpec := { name := "fnExactParcelCommon", fn := fun _ => fun
  | [d1, d2] => { results := [.lit (.bool true)], args := [d1, d2] }
  | _ => none }
def fnExactParcelCommonRow : OpenClaim := { program := "ytegcjdcinebleaa", sum := "57076ba13c7e85a8fd9d8f123d5294a327335551c692bf5069481abd37fafa2d", func := "loop.example/levellingnet/laws.FnExactParcelCommon", spec := "fnExactParcelCommon", unfollowed := true, recurses := true, apart := false }
def FnExactParcelCommonSaid : Prop := fnExactParcelCommonRow.holds Try.pinned (OpenSpec.ofChange fnExactParcelCommonSpec)

/-- ITS FALSE NEIGHBOUR: 'it returns false'. Refute it at one input. -/
def fnExactParcelCommonWrong : ChangeSpec := { name := "fnExactParcelCommon", fn := fun _ => fun
  | [d1, d2] => { results := [.lit (.bool false)], args := [d1, d2] }
  | _ => none }
def FnExactParcelCommonWrongFalsely : Prop := fnExactParcelCommonRow.holds Try.pinned (OpenSpec.ofChange fnExactParcelCommonWrong)

/- THE SECOND FORM. 'bulk': how many values and letters a reading holds, each counted each time it is reached (what is shared counts as often as it is met; a slice's spare places count too). A statement '..UptoSaid' is the law's where the arguments, and the package variables that the reading takes, are together of bulk at most 1048576: NARROWER than '..Said'. Prove '..Said' where nothing that the law and all that it calls make is longer than what came in: it says more and counts as full. Else prove '..UptoSaid'. A law counts once. -/
mutual
def uptoBulk {H : Type} : DataW H → Nat
  | .lit (.string bytes) => bytes.length + 1
  | .lit _ => 1
  | .nil => 1
  | .ptr d => uptoBulk d + 1
  | .slice elems spare => uptoBulkAll elems + uptoBulkAll spare + 1
  | .agg parts => uptoBulkAll parts + 1
  | .iface _ d => uptoBulk d + 1
  | .map entries => uptoBulkEntries entries + 1
  | .held _ => 1
def uptoBulkAll {H : Type} : List (DataW H) → Nat
  | [] => 0
  | d :: r => uptoBulk d + uptoBulkAll r
def uptoBulkEntries {H : Type} : List (Lit × DataW H) → Nat
  | [] => 0
  | x :: r => uptoBulkEntry x + uptoBulkEntries r
def uptoBulkEntry {H : Type} : Lit × DataW H → Nat
  | (.string bytes, d) => bytes.length + uptoBulk d + 1
  | (_, d) => uptoBulk d + 1
 end
def uptoSmall : (H : Type) → List (DataW H) → Bool := fun _ ds => decide (uptoBulkAll ds ≤ 1048576)
def OpenSpec.upto (s : _root_.Go.ChangeSpec) : _root_.Go.OpenSpec := { _root_.Go.OpenSpec.ofChange s with cond := some uptoSmall }

/-- 'laws.FnPoly', WHERE WHAT IT READS IS OF BULK AT MOST 1048576: true; the input reads as it did. -/
def fnPolyUptoRow : OpenClaim := { program := "ytegcjdcinebleaa", sum := "57076ba13c7e85a8fd9d8f123d5294a327335551c692bf5069481abd37fafa2d", func := "loop.example/levellingnet/laws.FnPoly", spec := "fnPoly", unfollowed := true, recurses := true, apart := false, narrowed := true }
def FnPolyUptoSaid : Prop := fnPolyUptoRow.holds Try.pinned (OpenSpec.upto fnPolySpec)

/-- 'laws.FnPick', WHERE WHAT IT READS IS OF BULK AT MOST 1048576: true; the input reads as it did. -/
def fnPickUptoRow : OpenClaim := { program := "ytegcjdcinebleaa", sum := "57076ba13c7e85a8fd9d8f123d5294a327335551c692bf5069481abd37fafa2d", func := "loop.example/levellingnet/laws.FnPick", spec := "fnPick", unfollowed := true, recurses := true, apart := false, narrowed := true }
def FnPickUptoSaid : Prop := fnPickUptoRow.holds Try.pinned (OpenSpec.upto fnPickSpec)

/-- 'laws.FnPolyConvex', WHERE WHAT IT READS IS OF BULK AT MOST 1048576: true; the input reads as it did. -/
def fnPolyConvexUptoRow : OpenClaim := { program := "ytegcjdcinebleaa", sum := "57076ba13c7e85a8fd9d8f123d5294a327335551c692bf5069481abd37fafa2d", func := "loop.example/levellingnet/laws.FnPolyConvex", spec := "fnPolyConvex", unfollowed := true, recurses := true, apart := false, narrowed := true }
def FnPolyConvexUptoSaid : Prop := fnPolyConvexUptoRow.holds Try.pinned (OpenSpec.upto fnPolyConvexSpec)

/-- 'laws.FnParcel', WHERE WHAT IT READS IS OF BULK AT MOST 1048576: true; the input reads as it did. -/
def fnParcelUptoRow : OpenClaim := { program := "ytegcjdcinebleaa", sum := "57076ba13c7e85a8fd9d8f123d5294a327335551c692bf5069481abd37fafa2d", func := "loop.example/levellingnet/laws.FnParcel", spec := "fnParcel", unfollowed := true, recurses := true, apart := false, narrowed := true }
def FnParcelUptoSaid : Prop := fnParcelUptoRow.holds Try.pinned (OpenSpec.upto fnParcelSpec)

/-- 'laws.FnSplit', WHERE WHAT IT READS IS OF BULK AT MOST 1048576: true; the input reads as it did. -/
def fnSplitUptoRow : OpenClaim := { program := "ytegcjdcinebleaa", sum := "57076ba13c7e85a8fd9d8f123d5294a327335551c692bf5069481abd37fafa2d", func := "loop.example/levellingnet/laws.FnSplit", spec := "fnSplit", unfollowed := true, recurses := true, apart := false, narrowed := true }
def FnSplitUptoSaid : Prop := fnSplitUptoRow.holds Try.pinned (OpenSpec.upto fnSplitSpec)

/-- 'laws.FnSplitPlace', WHERE WHAT IT READS IS OF BULK AT MOST 1048576: true; the input reads as it did. -/
def fnSplitPlaceUptoRow : OpenClaim := { program := "ytegcjdcinebleaa", sum := "57076ba13c7e85a8fd9d8f123d5294a327335551c692bf5069481abd37fafa2d", func := "loop.example/levellingnet/laws.FnSplitPlace", spec := "fnSplitPlace", unfollowed := true, recurses := true, apart := false, narrowed := true }
def FnSplitPlaceUptoSaid : Prop := fnSplitPlaceUptoRow.holds Try.pinned (OpenSpec.upto fnSplitPlaceSpec)

/-- 'laws.FnShareParcel', WHERE WHAT IT READS IS OF BULK AT MOST 1048576: true; the input reads as it did. -/
def fnShareParcelUptoRow : OpenClaim := { program := "ytegcjdcinebleaa", sum := "57076ba13c7e85a8fd9d8f123d5294a327335551c692bf5069481abd37fafa2d", func := "loop.example/levellingnet/laws.FnShareParcel", spec := "fnShareParcel", unfollowed := true, recurses := true, apart := false, narrowed := true }
def FnShareParcelUptoSaid : Prop := fnShareParcelUptoRow.holds Try.pinned (OpenSpec.upto fnShareParcelSpec)

/-- 'laws.FnMarks', WHERE WHAT IT READS IS OF BULK AT MOST 1048576: true; the input reads as it did. -/
def fnMarksUptoRow : OpenClaim := { program := "ytegcjdcinebleaa", sum := "57076ba13c7e85a8fd9d8f123d5294a327335551c692bf5069481abd37fafa2d", func := "loop.example/levellingnet/laws.FnMarks", spec := "fnMarks", unfollowed := true, recurses := true, apart := false, narrowed := true }
def FnMarksUptoSaid : Prop := fnMarksUptoRow.holds Try.pinned (OpenSpec.upto fnMarksSpec)

/-- 'laws.FnCommon', WHERE WHAT IT READS IS OF BULK AT MOST 1048576: true; the input reads as it did. -/
def fnCommonUptoRow : OpenClaim := { program := "ytegcjdcinebleaa", sum := "57076ba13c7e85a8fd9d8f123d5294a327335551c692bf5069481abd37fafa2d", func := "loop.example/levellingnet/laws.FnCommon", spec := "fnCommon", unfollowed := true, recurses := true, apart := false, narrowed := true }
def FnCommonUptoSaid : Prop := fnCommonUptoRow.holds Try.pinned (OpenSpec.upto fnCommonSpec)

/-- 'laws.FnExactPolyConvex', WHERE WHAT IT READS IS OF BULK AT MOST 1048576: true; the input reads as it did. -/
def fnExactPolyConvexUptoRow : OpenClaim := { program := "ytegcjdcinebleaa", sum := "57076ba13c7e85a8fd9d8f123d5294a327335551c692bf5069481abd37fafa2d", func := "loop.example/levellingnet/laws.FnExactPolyConvex", spec := "fnExactPolyConvex", unfollowed := true, recurses := true, apart := false, narrowed := true }
def FnExactPolyConvexUptoSaid : Prop := fnExactPolyConvexUptoRow.holds Try.pinned (OpenSpec.upto fnExactPolyConvexSpec)

/-- 'laws.FnExactParcelValid', WHERE WHAT IT READS IS OF BULK AT MOST 1048576: true; the input reads as it did. -/
def fnExactParcelValidUptoRow : OpenClaim := { program := "ytegcjdcinebleaa", sum := "57076ba13c7e85a8fd9d8f123d5294a327335551c692bf5069481abd37fafa2d", func := "loop.example/levellingnet/laws.FnExactParcelValid", spec := "fnExactParcelValid", unfollowed := true, recurses := true, apart := false, narrowed := true }
def FnExactParcelValidUptoSaid : Prop := fnExactParcelValidUptoRow.holds Try.pinned (OpenSpec.upto fnExactParcelValidSpec)

/-- 'laws.FnExactParcelSplit', WHERE WHAT IT READS IS OF BULK AT MOST 1048576: true; the input reads as it did. -/
def fnExactParcelSplitUptoRow : OpenClaim := { program := "ytegcjdcinebleaa", sum := "57076ba13c7e85a8fd9d8f123d5294a327335551c692bf5069481abd37fafa2d", func := "loop.example/levellingnet/laws.FnExactParcelSplit", spec := "fnExactParcelSplit", unfollowed := true, recurses := true, apart := false, narrowed := true }
def FnExactParcelSplitUptoSaid : Prop := fnExactParcelSplitUptoRow.holds Try.pinned (OpenSpec.upto fnExactParcelSplitSpec)

/-- 'laws.FnExactParcelShare', WHERE WHAT IT READS IS OF BULK AT MOST 1048576: true; the input reads as it did. -/
def fnExactParcelShareUptoRow : OpenClaim := { program := "ytegcjdcinebleaa", sum := "57076ba13c7e85a8fd9d8f123d5294a327335551c692bf5069481abd37fafa2d", func := "loop.example/levellingnet/laws.FnExactParcelShare", spec := "fnExactParcelShare", unfollowed := true, recurses := true, apart := false, narrowed := true }
def FnExactParcelShareUptoSaid : Prop := fnExactParcelShareUptoRow.holds Try.pinned (OpenSpec.upto fnExactParcelShareSpec)

/-- 'laws.FnExactParcelMarks', WHERE WHAT IT READS IS OF BULK AT MOST 1048576: true; the input reads as it did. -/
def fnExactParcelMarksUptoRow : OpenClaim := { program := "ytegcjdcinebleaa", sum := "57076ba13c7e85a8fd9d8f123d5294a327335551c692bf5069481abd37fafa2d", func := "loop.example/levellingnet/laws.FnExactParcelMarks", spec := "fnExactParcelMarks", unfollowed := true, recurses := true, apart := false, narrowed := true }
def FnExactParcelMarksUptoSaid : Prop := fnExactParcelMarksUptoRow.holds Try.pinned (OpenSpec.upto fnExactParcelMarksSpec)

/-- 'laws.FnExactParcelCommon', WHERE WHAT IT READS IS OF BULK AT MOST 1048576: true; the input reads as it did. -/
def fnExactParcelCommonUptoRow : OpenClaim := { program := "ytegcjdcinebleaa", sum := "57076ba13c7e85a8fd9d8f123d5294a327335551c692bf5069481abd37fafa2d", func := "loop.example/levellingnet/laws.FnExactParcelCommon", spec := "fnExactParcelCommon", unfollowed := true, recurses := true, apart := false, narrowed := true }
def FnExactParcelCommonUptoSaid : Prop := fnExactParcelCommonUptoRow.holds Try.pinned (OpenSpec.upto fnExactParcelCommonSpec)

end Rows
end Go.Proofs.Ytegcjdcinebleaa
