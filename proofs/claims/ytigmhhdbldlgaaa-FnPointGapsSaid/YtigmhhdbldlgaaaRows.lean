/-
  No cell of these rows narrows 'for every input' (looked for: loops, veiled, ifaces, maps, wideKeys, modest, calm, conditions, laid).
  DERIVED. THE GIVEN ROWS OF THIS SEAT. 14 by the template 'for every input the law returns true; each argument reads behind the call as it read before'; 0 by the template 'total and deterministic' (their statements: YtigmhhdbldlgaaaTotals.lean).
  GIVEN WITH THE SEED: the statements are not yours to turn. If you find one false, say at which input.
  Laid BY PROGRAM, IN A SANDBOX (cutbox-rows.mjs): the forced cells as the released guide's own fill.sh prints them over the translation 91571be40b7623d0… (all of the seat's roots in one cut). By AI agents, Wed Nov 11 2026. No macro, syntax, notation, axiom, sorry.
-/
import Derived.Test.YtigmhhdbldlgaaaChecked
import GoSem.Claim
import GoSem.ClaimJoined
import GoSem.ClaimMapViews
import Derived.JoinedTies
import Derived.KernelRfl
namespace Go.Proofs.Ytigmhhdbldlgaaa
/- THE CELL 'sum', in the pinned program and in every row, IS THE sha256 OF THE DUMP (.gsa) THAT YtigmhhdbldlgaaaProg.lean LOADS. Nothing in Lean hashes anything: it is a label: what it is worth is what the hold of that sum in a sandbox is worth. -/
noncomputable def Try.pinned : Pinned := { name := "ytigmhhdbldlgaaa", sum := "91571be40b7623d0c21c9560b72729d96fd25774af0442fcbdd25518fa644105", checked := Try.checked }
namespace Rows
def none {H : Type} : Left H := { results := [], args := [] }

/-- 'laws.FnPointStep': WHATEVER THE INPUT: true; the input reads as it did. -/
def fnPointStepSpec : ChangeSpec := { name := "fnPointStep", fn := fun _ => fun
  | [d] => { results := [.lit (.bool true)], args := [d] }
  | _ => none }
def fnPointStepRow : OpenClaim := { program := "ytigmhhdbldlgaaa", sum := "91571be40b7623d0c21c9560b72729d96fd25774af0442fcbdd25518fa644105", func := "loop.example/levellingnet/laws.FnPointStep", spec := "fnPointStep", apart := false }
def FnPointStepSaid : Prop := fnPointStepRow.holds Try.pinned (OpenSpec.ofChange fnPointStepSpec)

/-- ITS FALSE NEIGHBOUR: 'it returns false'. Refute it at one input. -/
def fnPointStepWrong : ChangeSpec := { name := "fnPointStep", fn := fun _ => fun
  | [d] => { results := [.lit (.bool false)], args := [d] }
  | _ => none }
def FnPointStepWrongFalsely : Prop := fnPointStepRow.holds Try.pinned (OpenSpec.ofChange fnPointStepWrong)

/-- 'laws.FnPointOn': WHATEVER THE INPUT: true; the input reads as it did. -/
def fnPointOnSpec : ChangeSpec := { name := "fnPointOn", fn := fun _ => fun
  | [d] => { results := [.lit (.bool true)], args := [d] }
  | _ => none }
def fnPointOnRow : OpenClaim := { program := "ytigmhhdbldlgaaa", sum := "91571be40b7623d0c21c9560b72729d96fd25774af0442fcbdd25518fa644105", func := "loop.example/levellingnet/laws.FnPointOn", spec := "fnPointOn", apart := false }
def FnPointOnSaid : Prop := fnPointOnRow.holds Try.pinned (OpenSpec.ofChange fnPointOnSpec)

/-- ITS FALSE NEIGHBOUR: 'it returns false'. Refute it at one input. -/
def fnPointOnWrong : ChangeSpec := { name := "fnPointOn", fn := fun _ => fun
  | [d] => { results := [.lit (.bool false)], args := [d] }
  | _ => none }
def FnPointOnWrongFalsely : Prop := fnPointOnRow.holds Try.pinned (OpenSpec.ofChange fnPointOnWrong)

/-- 'laws.FnPointGaps': WHATEVER THE INPUT: true; the input reads as it did. -/
def fnPointGapsSpec : ChangeSpec := { name := "fnPointGaps", fn := fun _ => fun
  | [d] => { results := [.lit (.bool true)], args := [d] }
  | _ => none }
def fnPointGapsRow : OpenClaim := { program := "ytigmhhdbldlgaaa", sum := "91571be40b7623d0c21c9560b72729d96fd25774af0442fcbdd25518fa644105", func := "loop.example/levellingnet/laws.FnPointGaps", spec := "fnPointGaps", apart := false }
def FnPointGapsSaid : Prop := fnPointGapsRow.holds Try.pinned (OpenSpec.ofChange fnPointGapsSpec)

/-- ITS FALSE NEIGHBOUR: 'it returns false'. Refute it at one input. -/
def fnPointGapsWrong : ChangeSpec := { name := "fnPointGaps", fn := fun _ => fun
  | [d] => { results := [.lit (.bool false)], args := [d] }
  | _ => none }
def FnPointGapsWrongFalsely : Prop := fnPointGapsRow.holds Try.pinned (OpenSpec.ofChange fnPointGapsWrong)

/-- 'laws.FnPointFar': WHATEVER THE INPUT: true; the input reads as it did. -/
def fnPointFarSpec : ChangeSpec := { name := "fnPointFar", fn := fun _ => fun
  | [d1, d2] => { results := [.lit (.bool true)], args := [d1, d2] }
  | _ => none }
def fnPointFarRow : OpenClaim := { program := "ytigmhhdbldlgaaa", sum := "91571be40b7623d0c21c9560b72729d96fd25774af0442fcbdd25518fa644105", func := "loop.example/levellingnet/laws.FnPointFar", spec := "fnPointFar", apart := false }
def FnPointFarSaid : Prop := fnPointFarRow.holds Try.pinned (OpenSpec.ofChange fnPointFarSpec)

/-- ITS FALSE NEIGHBOUR: 'it returns false'. Refute it at one input. -/
def fnPointFarWrong : ChangeSpec := { name := "fnPointFar", fn := fun _ => fun
  | [d1, d2] => { results := [.lit (.bool false)], args := [d1, d2] }
  | _ => none }
def FnPointFarWrongFalsely : Prop := fnPointFarRow.holds Try.pinned (OpenSpec.ofChange fnPointFarWrong)

/-- 'laws.FnBearingOf': WHATEVER THE INPUT: true; the input reads as it did. -/
def fnBearingOfSpec : ChangeSpec := { name := "fnBearingOf", fn := fun _ => fun
  | [d] => { results := [.lit (.bool true)], args := [d] }
  | _ => none }
def fnBearingOfRow : OpenClaim := { program := "ytigmhhdbldlgaaa", sum := "91571be40b7623d0c21c9560b72729d96fd25774af0442fcbdd25518fa644105", func := "loop.example/levellingnet/laws.FnBearingOf", spec := "fnBearingOf", apart := false }
def FnBearingOfSaid : Prop := fnBearingOfRow.holds Try.pinned (OpenSpec.ofChange fnBearingOfSpec)

/-- ITS FALSE NEIGHBOUR: 'it returns false'. Refute it at one input. -/
def fnBearingOfWrong : ChangeSpec := { name := "fnBearingOf", fn := fun _ => fun
  | [d] => { results := [.lit (.bool false)], args := [d] }
  | _ => none }
def FnBearingOfWrongFalsely : Prop := fnBearingOfRow.holds Try.pinned (OpenSpec.ofChange fnBearingOfWrong)

/-- 'laws.FnBearingTurn': WHATEVER THE INPUT: true; the input reads as it did. -/
def fnBearingTurnSpec : ChangeSpec := { name := "fnBearingTurn", fn := fun _ => fun
  | [d] => { results := [.lit (.bool true)], args := [d] }
  | _ => none }
def fnBearingTurnRow : OpenClaim := { program := "ytigmhhdbldlgaaa", sum := "91571be40b7623d0c21c9560b72729d96fd25774af0442fcbdd25518fa644105", func := "loop.example/levellingnet/laws.FnBearingTurn", spec := "fnBearingTurn", apart := false }
def FnBearingTurnSaid : Prop := fnBearingTurnRow.holds Try.pinned (OpenSpec.ofChange fnBearingTurnSpec)

/-- ITS FALSE NEIGHBOUR: 'it returns false'. Refute it at one input. -/
def fnBearingTurnWrong : ChangeSpec := { name := "fnBearingTurn", fn := fun _ => fun
  | [d] => { results := [.lit (.bool false)], args := [d] }
  | _ => none }
def FnBearingTurnWrongFalsely : Prop := fnBearingTurnRow.holds Try.pinned (OpenSpec.ofChange fnBearingTurnWrong)

/-- 'laws.FnBearingLess': WHATEVER THE INPUT: true; the input reads as it did. -/
def fnBearingLessSpec : ChangeSpec := { name := "fnBearingLess", fn := fun _ => fun
  | [d1, d2] => { results := [.lit (.bool true)], args := [d1, d2] }
  | _ => none }
def fnBearingLessRow : OpenClaim := { program := "ytigmhhdbldlgaaa", sum := "91571be40b7623d0c21c9560b72729d96fd25774af0442fcbdd25518fa644105", func := "loop.example/levellingnet/laws.FnBearingLess", spec := "fnBearingLess", unfollowed := true, recurses := true, apart := false }
def FnBearingLessSaid : Prop := fnBearingLessRow.holds Try.pinned (OpenSpec.ofChange fnBearingLessSpec)

/-- ITS FALSE NEIGHBOUR: 'it returns false'. Refute it at one input. -/
def fnBearingLessWrong : ChangeSpec := { name := "fnBearingLess", fn := fun _ => fun
  | [d1, d2] => { results := [.lit (.bool false)], args := [d1, d2] }
  | _ => none }
def FnBearingLessWrongFalsely : Prop := fnBearingLessRow.holds Try.pinned (OpenSpec.ofChange fnBearingLessWrong)

/-- 'laws.FnBearingSide': WHATEVER THE INPUT: true; the input reads as it did. -/
def fnBearingSideSpec : ChangeSpec := { name := "fnBearingSide", fn := fun _ => fun
  | [d] => { results := [.lit (.bool true)], args := [d] }
  | _ => none }
def fnBearingSideRow : OpenClaim := { program := "ytigmhhdbldlgaaa", sum := "91571be40b7623d0c21c9560b72729d96fd25774af0442fcbdd25518fa644105", func := "loop.example/levellingnet/laws.FnBearingSide", spec := "fnBearingSide", unfollowed := true, recurses := true, apart := false }
def FnBearingSideSaid : Prop := fnBearingSideRow.holds Try.pinned (OpenSpec.ofChange fnBearingSideSpec)

/-- ITS FALSE NEIGHBOUR: 'it returns false'. Refute it at one input. -/
def fnBearingSideWrong : ChangeSpec := { name := "fnBearingSide", fn := fun _ => fun
  | [d] => { results := [.lit (.bool false)], args := [d] }
  | _ => none }
def FnBearingSideWrongFalsely : Prop := fnBearingSideRow.holds Try.pinned (OpenSpec.ofChange fnBearingSideWrong)

/-- 'laws.FnExactPointOn': WHATEVER THE INPUT: true; the input reads as it did. -/
def fnExactPointOnSpec : ChangeSpec := { name := "fnExactPointOn", fn := fun _ => fun
  | [d1, d2, d3] => { results := [.lit (.bool true)], args := [d1, d2, d3] }
  | _ => none }
def fnExactPointOnRow : OpenClaim := { program := "ytigmhhdbldlgaaa", sum := "91571be40b7623d0c21c9560b72729d96fd25774af0442fcbdd25518fa644105", func := "loop.example/levellingnet/laws.FnExactPointOn", spec := "fnExactPointOn", apart := false }
def FnExactPointOnSaid : Prop := fnExactPointOnRow.holds Try.pinned (OpenSpec.ofChange fnExactPointOnSpec)

/-- ITS FALSE NEIGHBOUR: 'it returns false'. Refute it at one input. -/
def fnExactPointOnWrong : ChangeSpec := { name := "fnExactPointOn", fn := fun _ => fun
  | [d1, d2, d3] => { results := [.lit (.bool false)], args := [d1, d2, d3] }
  | _ => none }
def FnExactPointOnWrongFalsely : Prop := fnExactPointOnRow.holds Try.pinned (OpenSpec.ofChange fnExactPointOnWrong)

/-- 'laws.FnExactBearingOf': WHATEVER THE INPUT: true; the input reads as it did. -/
def fnExactBearingOfSpec : ChangeSpec := { name := "fnExactBearingOf", fn := fun _ => fun
  | [d] => { results := [.lit (.bool true)], args := [d] }
  | _ => none }
def fnExactBearingOfRow : OpenClaim := { program := "ytigmhhdbldlgaaa", sum := "91571be40b7623d0c21c9560b72729d96fd25774af0442fcbdd25518fa644105", func := "loop.example/levellingnet/laws.FnExactBearingOf", spec := "fnExactBearingOf", apart := false }
def FnExactBearingOfSaid : Prop := fnExactBearingOfRow.holds Try.pinned (OpenSpec.ofChange fnExactBearingOfSpec)

/-- ITS FALSE NEIGHBOUR: 'it returns false'. Refute it at one input. -/
def fnExactBearingOfWrong : ChangeSpec := { name := "fnExactBearingOf", fn := fun _ => fun
  | [d] => { results := [.lit (.bool false)], args := [d] }
  | _ => none }
def FnExactBearingOfWrongFalsely : Prop := fnExactBearingOfRow.holds Try.pinned (OpenSpec.ofChange fnExactBearingOfWrong)

/-- 'laws.FnExactBearingBack': WHATEVER THE INPUT: true; the input reads as it did. -/
def fnExactBearingBackSpec : ChangeSpec := { name := "fnExactBearingBack", fn := fun _ => fun
  | [d] => { results := [.lit (.bool true)], args := [d] }
  | _ => none }
def fnExactBearingBackRow : OpenClaim := { program := "ytigmhhdbldlgaaa", sum := "91571be40b7623d0c21c9560b72729d96fd25774af0442fcbdd25518fa644105", func := "loop.example/levellingnet/laws.FnExactBearingBack", spec := "fnExactBearingBack", apart := false }
def FnExactBearingBackSaid : Prop := fnExactBearingBackRow.holds Try.pinned (OpenSpec.ofChange fnExactBearingBackSpec)

/-- ITS FALSE NEIGHBOUR: 'it returns false'. Refute it at one input. -/
def fnExactBearingBackWrong : ChangeSpec := { name := "fnExactBearingBack", fn := fun _ => fun
  | [d] => { results := [.lit (.bool false)], args := [d] }
  | _ => none }
def FnExactBearingBackWrongFalsely : Prop := fnExactBearingBackRow.holds Try.pinned (OpenSpec.ofChange fnExactBearingBackWrong)

/-- 'laws.FnExactBearingTurn': WHATEVER THE INPUT: true; the input reads as it did. -/
def fnExactBearingTurnSpec : ChangeSpec := { name := "fnExactBearingTurn", fn := fun _ => fun
  | [d1, d2] => { results := [.lit (.bool true)], args := [d1, d2] }
  | _ => none }
def fnExactBearingTurnRow : OpenClaim := { program := "ytigmhhdbldlgaaa", sum := "91571be40b7623d0c21c9560b72729d96fd25774af0442fcbdd25518fa644105", func := "loop.example/levellingnet/laws.FnExactBearingTurn", spec := "fnExactBearingTurn", apart := false }
def FnExactBearingTurnSaid : Prop := fnExactBearingTurnRow.holds Try.pinned (OpenSpec.ofChange fnExactBearingTurnSpec)

/-- ITS FALSE NEIGHBOUR: 'it returns false'. Refute it at one input. -/
def fnExactBearingTurnWrong : ChangeSpec := { name := "fnExactBearingTurn", fn := fun _ => fun
  | [d1, d2] => { results := [.lit (.bool false)], args := [d1, d2] }
  | _ => none }
def FnExactBearingTurnWrongFalsely : Prop := fnExactBearingTurnRow.holds Try.pinned (OpenSpec.ofChange fnExactBearingTurnWrong)

/-- 'laws.FnExactBearingLess': WHATEVER THE INPUT: true; the input reads as it did. -/
def fnExactBearingLessSpec : ChangeSpec := { name := "fnExactBearingLess", fn := fun _ => fun
  | [d1, d2] => { results := [.lit (.bool true)], args := [d1, d2] }
  | _ => none }
def fnExactBearingLessRow : OpenClaim := { program := "ytigmhhdbldlgaaa", sum := "91571be40b7623d0c21c9560b72729d96fd25774af0442fcbdd25518fa644105", func := "loop.example/levellingnet/laws.FnExactBearingLess", spec := "fnExactBearingLess", unfollowed := true, recurses := true, apart := false }
def FnExactBearingLessSaid : Prop := fnExactBearingLessRow.holds Try.pinned (OpenSpec.ofChange fnExactBearingLessSpec)

/-- ITS FALSE NEIGHBOUR: 'it returns false'. Refute it at one input. -/
def fnExactBearingLessWrong : ChangeSpec := { name := "fnExactBearingLess", fn := fun _ => fun
  | [d1, d2] => { results := [.lit (.bool false)], args := [d1, d2] }
  | _ => none }
def FnExactBearingLessWrongFalsely : Prop := fnExactBearingLessRow.holds Try.pinned (OpenSpec.ofChange fnExactBearingLessWrong)

/-- 'laws.FnExactBearingQuarter': WHATEVER THE INPUT: true; the input reads as it did. -/
def fnExactBearingQuarterSpec : ChangeSpec := { name := "fnExactBearingQuarter", fn := fun _ => fun
  | [d] => { results := [.lit (.bool true)], args := [d] }
  | _ => none }
def fnExactBearingQuarterRow : OpenClaim := { program := "ytigmhhdbldlgaaa", sum := "91571be40b7623d0c21c9560b72729d96fd25774af0442fcbdd25518fa644105", func := "loop.example/levellingnet/laws.FnExactBearingQuarter", spec := "fnExactBearingQuarter", apart := false }
def FnExactBearingQuarterSaid : Prop := fnExactBearingQuarterRow.holds Try.pinned (OpenSpec.ofChange fnExactBearingQuarterSpec)

/-- ITS FALSE NEIGHBOUR: 'it returns false'. Refute it at one input. -/
def fnExactBearingQuarterWrong : ChangeSpec := { name := "fnExactBearingQuarter", fn := fun _ => fun
  | [d] => { results := [.lit (.bool false)], args := [d] }
  | _ => none }
def FnExactBearingQuarterWrongFalsely : Prop := fnExactBearingQuarterRow.holds Try.pinned (OpenSpec.ofChange fnExactBearingQuarterWrong)

/- THE SECOND FORM. 'bulk': how many values and letters a reading holds, each counted each time it is reached (what is shared counts as often as it is met; a slice's spare places count too). A statement '..UptoSaid' is the law's where the arguments, and the package variables that the reading takes, are together of bulk at most 1048576: NARROWER than '..Said'. Prove '..Said' where nothing that the law and all that it calls make is longer than what came in: it says more and counts as full. Else prove '..UptoSaid'. A law counts once. -/
mutual
def uptoBulk {H : Type} : DataW H → Nat
  | .lit (.string bytes) => bytes.length + 1
  | .lit _ => 1
  | .nil => 1
  | .ptr d => uptoBulk d + 1
  | .slice elems spare => uptoBulkAll elems + uptoBulkAll spare + 1
  | .agg parts => uptoBulkAll parts + 1
  | .iface _ d => uptoBulk d + 1
  | .map entries => uptoBulkEntries entries + 1
  | .held _ => 1
def uptoBulkAll {H : Type} : List (DataW H) → Nat
  | [] => 0
  | d :: r => uptoBulk d + uptoBulkAll r
def uptoBulkEntries {H : Type} : List (Lit × DataW H) → Nat
  | [] => 0
  | x :: r => uptoBulkEntry x + uptoBulkEntries r
def uptoBulkEntry {H : Type} : Lit × DataW H → Nat
  | (.string bytes, d) => bytes.length + uptoBulk d + 1
  | (_, d) => uptoBulk d + 1
 end
def uptoSmall : (H : Type) → List (DataW H) → Bool := fun _ ds => decide (uptoBulkAll ds ≤ 1048576)
def OpenSpec.upto (s : _root_.Go.ChangeSpec) : _root_.Go.OpenSpec := { _root_.Go.OpenSpec.ofChange s with cond := some uptoSmall }

/-- 'laws.FnPointStep', WHERE WHAT IT READS IS OF BULK AT MOST 1048576: true; the input reads as it did. -/
def fnPointStepUptoRow : OpenClaim := { program := "ytigmhhdbldlgaaa", sum := "91571be40b7623d0c21c9560b72729d96fd25774af0442fcbdd25518fa644105", func := "loop.example/levellingnet/laws.FnPointStep", spec := "fnPointStep", apart := false, narrowed := true }
def FnPointStepUptoSaid : Prop := fnPointStepUptoRow.holds Try.pinned (OpenSpec.upto fnPointStepSpec)

/-- 'laws.FnPointOn', WHERE WHAT IT READS IS OF BULK AT MOST 1048576: true; the input reads as it did. -/
def fnPointOnUptoRow : OpenClaim := { program := "ytigmhhdbldlgaaa", sum := "91571be40b7623d0c21c9560b72729d96fd25774af0442fcbdd25518fa644105", func := "loop.example/levellingnet/laws.FnPointOn", spec := "fnPointOn", apart := false, narrowed := true }
def FnPointOnUptoSaid : Prop := fnPointOnUptoRow.holds Try.pinned (OpenSpec.upto fnPointOnSpec)

/-- 'laws.FnPointGaps', WHERE WHAT IT READS IS OF BULK AT MOST 1048576: true; the input reads as it did. -/
def fnPointGapsUptoRow : OpenClaim := { program := "ytigmhhdbldlgaaa", sum := "91571be40b7623d0c21c9560b72729d96fd25774af0442fcbdd25518fa644105", func := "loop.example/levellingnet/laws.FnPointGaps", spec := "fnPointGaps", apart := false, narrowed := true }
def FnPointGapsUptoSaid : Prop := fnPointGapsUptoRow.holds Try.pinned (OpenSpec.upto fnPointGapsSpec)

/-- 'laws.FnPointFar', WHERE WHAT IT READS IS OF BULK AT MOST 1048576: true; the input reads as it did. -/
def fnPointFarUptoRow : OpenClaim := { program := "ytigmhhdbldlgaaa", sum := "91571be40b7623d0c21c9560b72729d96fd25774af0442fcbdd25518fa644105", func := "loop.example/levellingnet/laws.FnPointFar", spec := "fnPointFar", apart := false, narrowed := true }
def FnPointFarUptoSaid : Prop := fnPointFarUptoRow.holds Try.pinned (OpenSpec.upto fnPointFarSpec)

/-- 'laws.FnBearingOf', WHERE WHAT IT READS IS OF BULK AT MOST 1048576: true; the input reads as it did. -/
def fnBearingOfUptoRow : OpenClaim := { program := "ytigmhhdbldlgaaa", sum := "91571be40b7623d0c21c9560b72729d96fd25774af0442fcbdd25518fa644105", func := "loop.example/levellingnet/laws.FnBearingOf", spec := "fnBearingOf", apart := false, narrowed := true }
def FnBearingOfUptoSaid : Prop := fnBearingOfUptoRow.holds Try.pinned (OpenSpec.upto fnBearingOfSpec)

/-- 'laws.FnBearingTurn', WHERE WHAT IT READS IS OF BULK AT MOST 1048576: true; the input reads as it did. -/
def fnBearingTurnUptoRow : OpenClaim := { program := "ytigmhhdbldlgaaa", sum := "91571be40b7623d0c21c9560b72729d96fd25774af0442fcbdd25518fa644105", func := "loop.example/levellingnet/laws.FnBearingTurn", spec := "fnBearingTurn", apart := false, narrowed := true }
def FnBearingTurnUptoSaid : Prop := fnBearingTurnUptoRow.holds Try.pinned (OpenSpec.upto fnBearingTurnSpec)

/-- 'laws.FnBearingLess', WHERE WHAT IT READS IS OF BULK AT MOST 1048576: true; the input reads as it did. -/
def fnBearingLessUptoRow : OpenClaim := { program := "ytigmhhdbldlgaaa", sum := "91571be40b7623d0c21c9560b72729d96fd25774af0442fcbdd25518fa644105", func := "loop.example/levellingnet/laws.FnBearingLess", spec := "fnBearingLess", unfollowed := true, recurses := true, apart := false, narrowed := true }
def FnBearingLessUptoSaid : Prop := fnBearingLessUptoRow.holds Try.pinned (OpenSpec.upto fnBearingLessSpec)

/-- 'laws.FnBearingSide', WHERE WHAT IT READS IS OF BULK AT MOST 1048576: true; the input reads as it did. -/
def fnBearingSideUptoRow : OpenClaim := { program := "ytigmhhdbldlgaaa", sum := "91571be40b7623d0c21c9560b72729d96fd25774af0442fcbdd25518fa644105", func := "loop.example/levellingnet/laws.FnBearingSide", spec := "fnBearingSide", unfollowed := true, recurses := true, apart := false, narrowed := true }
def FnBearingSideUptoSaid : Prop := fnBearingSideUptoRow.holds Try.pinned (OpenSpec.upto fnBearingSideSpec)

/-- 'laws.FnExactPointOn', WHERE WHAT IT READS IS OF BULK AT MOST 1048576: true; the input reads as it did. -/
def fnExactPointOnUptoRow : OpenClaim := { program := "ytigmhhdbldlgaaa", sum := "91571be40b7623d0c21c9560b72729d96fd25774af0442fcbdd25518fa644105", func := "loop.example/levellingnet/laws.FnExactPointOn", spec := "fnExactPointOn", apart := false, narrowed := true }
def FnExactPointOnUptoSaid : Prop := fnExactPointOnUptoRow.holds Try.pinned (OpenSpec.upto fnExactPointOnSpec)

/-- 'laws.FnExactBearingOf', WHERE WHAT IT READS IS OF BULK AT MOST 1048576: true; the input reads as it did. -/
def fnExactBearingOfUptoRow : OpenClaim := { program := "ytigmhhdbldlgaaa", sum := "91571be40b7623d0c21c9560b72729d96fd25774af0442fcbdd25518fa644105", func := "loop.example/levellingnet/laws.FnExactBearingOf", spec := "fnExactBearingOf", apart := false, narrowed := true }
def FnExactBearingOfUptoSaid : Prop := fnExactBearingOfUptoRow.holds Try.pinned (OpenSpec.upto fnExactBearingOfSpec)

/-- 'laws.FnExactBearingBack', WHERE WHAT IT READS IS OF BULK AT MOST 1048576: true; the input reads as it did. -/
def fnExactBearingBackUptoRow : OpenClaim := { program := "ytigmhhdbldlgaaa", sum := "91571be40b7623d0c21c9560b72729d96fd25774af0442fcbdd25518fa644105", func := "loop.example/levellingnet/laws.FnExactBearingBack", spec := "fnExactBearingBack", apart := false, narrowed := true }
def FnExactBearingBackUptoSaid : Prop := fnExactBearingBackUptoRow.holds Try.pinned (OpenSpec.upto fnExactBearingBackSpec)

/-- 'laws.FnExactBearingTurn', WHERE WHAT IT READS IS OF BULK AT MOST 1048576: true; the input reads as it did. -/
def fnExactBearingTurnUptoRow : OpenClaim := { program := "ytigmhhdbldlgaaa", sum := "91571be40b7623d0c21c9560b72729d96fd25774af0442fcbdd25518fa644105", func := "loop.example/levellingnet/laws.FnExactBearingTurn", spec := "fnExactBearingTurn", apart := false, narrowed := true }
def FnExactBearingTurnUptoSaid : Prop := fnExactBearingTurnUptoRow.holds Try.pinned (OpenSpec.upto fnExactBearingTurnSpec)

/-- 'laws.FnExactBearingLess', WHERE WHAT IT READS IS OF BULK AT MOST 1048576: true; the input reads as it did. -/
def fnExactBearingLessUptoRow : OpenClaim := { program := "ytigmhhdbldlgaaa", sum := "91571be40b7623d0c21c9560b72729d96fd25774af0442fcbdd25518fa644105", func := "loop.example/levellingnet/laws.FnExactBearingLess", spec := "fnExactBearingLess", unfollowed := true, recurses := true, apart := false, narrowed := true }
def FnExactBearingLessUptoSaid : Prop := fnExactBearingLessUptoRow.holds Try.pinned (OpenSpec.upto fnExactBearingLessSpec)

/-- 'laws.FnExactBearingQuarter', WHERE WHAT IT READS IS OF BULK AT MOST 1048576: true; the input reads as it did. -/
def fnExactBearingQuarterUptoRow : OpenClaim := { program := "ytigmhhdbldlgaaa", sum := "91571be40b7623d0c21c9560b72729d96fd25774af0442fcbdd25518fa644105", func := "loop.example/levellingnet/laws.FnExactBearingQuarter", spec := "fnExactBearingQuarter", apart := false, narrowed := true }
def FnExactBearingQuarterUptoSaid : Prop := fnExactBearingQuarterUptoRow.holds Try.pinned (OpenSpec.upto fnExactBearingQuarterSpec)

end Rows
end Go.Proofs.Ytigmhhdbldlgaaa
