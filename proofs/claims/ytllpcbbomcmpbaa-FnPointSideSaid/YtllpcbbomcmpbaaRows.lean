/-
  No cell of these rows narrows 'for every input' (looked for: loops, veiled, ifaces, maps, wideKeys, modest, calm, conditions, laid).
  DERIVED. THE GIVEN ROWS OF THIS SEAT. 12 by the template 'for every input the law returns true; each argument reads behind the call as it read before'; 0 by the template 'total and deterministic' (their statements: YtllpcbbomcmpbaaTotals.lean).
  GIVEN WITH THE SEED: the statements are not yours to turn. If you find one false, say at which input.
  Laid BY PROGRAM, IN A SANDBOX (cutbox-rows.mjs): the forced cells as the released guide's own fill.sh prints them over the translation d7fb91dcb0d2b365… (all of the seat's roots in one cut). By AI agents, Wed Nov 11 2026. No macro, syntax, notation, axiom, sorry.
-/
import Derived.Test.YtllpcbbomcmpbaaChecked
import GoSem.Claim
import GoSem.ClaimJoined
import GoSem.ClaimMapViews
import Derived.JoinedTies
import Derived.KernelRfl
namespace Go.Proofs.Ytllpcbbomcmpbaa
/- THE CELL 'sum', in the pinned program and in every row, IS THE sha256 OF THE DUMP (.gsa) THAT YtllpcbbomcmpbaaProg.lean LOADS. Nothing in Lean hashes anything: it is a label: what it is worth is what the hold of that sum in a sandbox is worth. -/
noncomputable def Try.pinned : Pinned := { name := "ytllpcbbomcmpbaa", sum := "d7fb91dcb0d2b365cd4918efdf155a769fc2bb29470a9e4349c6b45f86dccbb8", checked := Try.checked }
namespace Rows
def none {H : Type} : Left H := { results := [], args := [] }

/-- 'laws.FnPointStep': WHATEVER THE INPUT: true; the input reads as it did. -/
def fnPointStepSpec : ChangeSpec := { name := "fnPointStep", fn := fun _ => fun
  | [d] => { results := [.lit (.bool true)], args := [d] }
  | _ => none }
def fnPointStepRow : OpenClaim := { program := "ytllpcbbomcmpbaa", sum := "d7fb91dcb0d2b365cd4918efdf155a769fc2bb29470a9e4349c6b45f86dccbb8", func := "loop.example/levellingnet/laws.FnPointStep", spec := "fnPointStep", apart := false }
def FnPointStepSaid : Prop := fnPointStepRow.holds Try.pinned (OpenSpec.ofChange fnPointStepSpec)

/-- ITS FALSE NEIGHBOUR: 'it returns false'. Refute it at one input. -/
def fnPointStepWrong : ChangeSpec := { name := "fnPointStep", fn := fun _ => fun
  | [d] => { results := [.lit (.bool false)], args := [d] }
  | _ => none }
def FnPointStepWrongFalsely : Prop := fnPointStepRow.holds Try.pinned (OpenSpec.ofChange fnPointStepWrong)

/-- 'laws.FnPointSide': WHATEVER THE INPUT: true; the input reads as it did. -/
def fnPointSideSpec : ChangeSpec := { name := "fnPointSide", fn := fun _ => fun
  | [d] => { results := [.lit (.bool true)], args := [d] }
  | _ => none }
def fnPointSideRow : OpenClaim := { program := "ytllpcbbomcmpbaa", sum := "d7fb91dcb0d2b365cd4918efdf155a769fc2bb29470a9e4349c6b45f86dccbb8", func := "loop.example/levellingnet/laws.FnPointSide", spec := "fnPointSide", apart := false }
def FnPointSideSaid : Prop := fnPointSideRow.holds Try.pinned (OpenSpec.ofChange fnPointSideSpec)

/-- ITS FALSE NEIGHBOUR: 'it returns false'. Refute it at one input. -/
def fnPointSideWrong : ChangeSpec := { name := "fnPointSide", fn := fun _ => fun
  | [d] => { results := [.lit (.bool false)], args := [d] }
  | _ => none }
def FnPointSideWrongFalsely : Prop := fnPointSideRow.holds Try.pinned (OpenSpec.ofChange fnPointSideWrong)

/-- 'laws.FnPointOn': WHATEVER THE INPUT: true; the input reads as it did. -/
def fnPointOnSpec : ChangeSpec := { name := "fnPointOn", fn := fun _ => fun
  | [d] => { results := [.lit (.bool true)], args := [d] }
  | _ => none }
def fnPointOnRow : OpenClaim := { program := "ytllpcbbomcmpbaa", sum := "d7fb91dcb0d2b365cd4918efdf155a769fc2bb29470a9e4349c6b45f86dccbb8", func := "loop.example/levellingnet/laws.FnPointOn", spec := "fnPointOn", apart := false }
def FnPointOnSaid : Prop := fnPointOnRow.holds Try.pinned (OpenSpec.ofChange fnPointOnSpec)

/-- ITS FALSE NEIGHBOUR: 'it returns false'. Refute it at one input. -/
def fnPointOnWrong : ChangeSpec := { name := "fnPointOn", fn := fun _ => fun
  | [d] => { results := [.lit (.bool false)], args := [d] }
  | _ => none }
def FnPointOnWrongFalsely : Prop := fnPointOnRow.holds Try.pinned (OpenSpec.ofChange fnPointOnWrong)

/-- 'laws.FnPointGaps': WHATEVER THE INPUT: true; the input reads as it did. -/
def fnPointGapsSpec : ChangeSpec := { name := "fnPointGaps", fn := fun _ => fun
  | [d] => { results := [.lit (.bool true)], args := [d] }
  | _ => none }
def fnPointGapsRow : OpenClaim := { program := "ytllpcbbomcmpbaa", sum := "d7fb91dcb0d2b365cd4918efdf155a769fc2bb29470a9e4349c6b45f86dccbb8", func := "loop.example/levellingnet/laws.FnPointGaps", spec := "fnPointGaps", apart := false }
def FnPointGapsSaid : Prop := fnPointGapsRow.holds Try.pinned (OpenSpec.ofChange fnPointGapsSpec)

/-- ITS FALSE NEIGHBOUR: 'it returns false'. Refute it at one input. -/
def fnPointGapsWrong : ChangeSpec := { name := "fnPointGaps", fn := fun _ => fun
  | [d] => { results := [.lit (.bool false)], args := [d] }
  | _ => none }
def FnPointGapsWrongFalsely : Prop := fnPointGapsRow.holds Try.pinned (OpenSpec.ofChange fnPointGapsWrong)

/-- 'laws.FnPointFar': WHATEVER THE INPUT: true; the input reads as it did. -/
def fnPointFarSpec : ChangeSpec := { name := "fnPointFar", fn := fun _ => fun
  | [d1, d2] => { results := [.lit (.bool true)], args := [d1, d2] }
  | _ => none }
def fnPointFarRow : OpenClaim := { program := "ytllpcbbomcmpbaa", sum := "d7fb91dcb0d2b365cd4918efdf155a769fc2bb29470a9e4349c6b45f86dccbb8", func := "loop.example/levellingnet/laws.FnPointFar", spec := "fnPointFar", apart := false }
def FnPointFarSaid : Prop := fnPointFarRow.holds Try.pinned (OpenSpec.ofChange fnPointFarSpec)

/-- ITS FALSE NEIGHBOUR: 'it returns false'. Refute it at one input. -/
def fnPointFarWrong : ChangeSpec := { name := "fnPointFar", fn := fun _ => fun
  | [d1, d2] => { results := [.lit (.bool false)], args := [d1, d2] }
  | _ => none }
def FnPointFarWrongFalsely : Prop := fnPointFarRow.holds Try.pinned (OpenSpec.ofChange fnPointFarWrong)

/-- 'laws.FnExactPointValid': WHATEVER THE INPUT: true; the input reads as it did. -/
def fnExactPointValidSpec : ChangeSpec := { name := "fnExactPointValid", fn := fun _ => fun
  | [d] => { results := [.lit (.bool true)], args := [d] }
  | _ => none }
def fnExactPointValidRow : OpenClaim := { program := "ytllpcbbomcmpbaa", sum := "d7fb91dcb0d2b365cd4918efdf155a769fc2bb29470a9e4349c6b45f86dccbb8", func := "loop.example/levellingnet/laws.FnExactPointValid", spec := "fnExactPointValid", apart := false }
def FnExactPointValidSaid : Prop := fnExactPointValidRow.holds Try.pinned (OpenSpec.ofChange fnExactPointValidSpec)

/-- ITS FALSE NEIGHBOUR: 'it returns false'. Refute it at one input. -/
def fnExactPointValidWrong : ChangeSpec := { name := "fnExactPointValid", fn := fun _ => fun
  | [d] => { results := [.lit (.bool false)], args := [d] }
  | _ => none }
def FnExactPointValidWrongFalsely : Prop := fnExactPointValidRow.holds Try.pinned (OpenSpec.ofChange fnExactPointValidWrong)

/-- 'laws.FnExactPointStep': WHATEVER THE INPUT: true; the input reads as it did. -/
def fnExactPointStepSpec : ChangeSpec := { name := "fnExactPointStep", fn := fun _ => fun
  | [d1, d2] => { results := [.lit (.bool true)], args := [d1, d2] }
  | _ => none }
def fnExactPointStepRow : OpenClaim := { program := "ytllpcbbomcmpbaa", sum := "d7fb91dcb0d2b365cd4918efdf155a769fc2bb29470a9e4349c6b45f86dccbb8", func := "loop.example/levellingnet/laws.FnExactPointStep", spec := "fnExactPointStep", apart := false }
def FnExactPointStepSaid : Prop := fnExactPointStepRow.holds Try.pinned (OpenSpec.ofChange fnExactPointStepSpec)

/-- ITS FALSE NEIGHBOUR: 'it returns false'. Refute it at one input. -/
def fnExactPointStepWrong : ChangeSpec := { name := "fnExactPointStep", fn := fun _ => fun
  | [d1, d2] => { results := [.lit (.bool false)], args := [d1, d2] }
  | _ => none }
def FnExactPointStepWrongFalsely : Prop := fnExactPointStepRow.holds Try.pinned (OpenSpec.ofChange fnExactPointStepWrong)

/-- 'laws.FnExactPointMove': WHATEVER THE INPUT: true; the input reads as it did. -/
def fnExactPointMoveSpec : ChangeSpec := { name := "fnExactPointMove", fn := fun _ => fun
  | [d1, d2] => { results := [.lit (.bool true)], args := [d1, d2] }
  | _ => none }
def fnExactPointMoveRow : OpenClaim := { program := "ytllpcbbomcmpbaa", sum := "d7fb91dcb0d2b365cd4918efdf155a769fc2bb29470a9e4349c6b45f86dccbb8", func := "loop.example/levellingnet/laws.FnExactPointMove", spec := "fnExactPointMove", apart := false }
def FnExactPointMoveSaid : Prop := fnExactPointMoveRow.holds Try.pinned (OpenSpec.ofChange fnExactPointMoveSpec)

/-- ITS FALSE NEIGHBOUR: 'it returns false'. Refute it at one input. -/
def fnExactPointMoveWrong : ChangeSpec := { name := "fnExactPointMove", fn := fun _ => fun
  | [d1, d2] => { results := [.lit (.bool false)], args := [d1, d2] }
  | _ => none }
def FnExactPointMoveWrongFalsely : Prop := fnExactPointMoveRow.holds Try.pinned (OpenSpec.ofChange fnExactPointMoveWrong)

/-- 'laws.FnExactPointSide': WHATEVER THE INPUT: true; the input reads as it did. -/
def fnExactPointSideSpec : ChangeSpec := { name := "fnExactPointSide", fn := fun _ => fun
  | [d1, d2, d3] => { results := [.lit (.bool true)], args := [d1, d2, d3] }
  | _ => none }
def fnExactPointSideRow : OpenClaim := { program := "ytllpcbbomcmpbaa", sum := "d7fb91dcb0d2b365cd4918efdf155a769fc2bb29470a9e4349c6b45f86dccbb8", func := "loop.example/levellingnet/laws.FnExactPointSide", spec := "fnExactPointSide", apart := false }
def FnExactPointSideSaid : Prop := fnExactPointSideRow.holds Try.pinned (OpenSpec.ofChange fnExactPointSideSpec)

/-- ITS FALSE NEIGHBOUR: 'it returns false'. Refute it at one input. -/
def fnExactPointSideWrong : ChangeSpec := { name := "fnExactPointSide", fn := fun _ => fun
  | [d1, d2, d3] => { results := [.lit (.bool false)], args := [d1, d2, d3] }
  | _ => none }
def FnExactPointSideWrongFalsely : Prop := fnExactPointSideRow.holds Try.pinned (OpenSpec.ofChange fnExactPointSideWrong)

/-- 'laws.FnExactPointOn': WHATEVER THE INPUT: true; the input reads as it did. -/
def fnExactPointOnSpec : ChangeSpec := { name := "fnExactPointOn", fn := fun _ => fun
  | [d1, d2, d3] => { results := [.lit (.bool true)], args := [d1, d2, d3] }
  | _ => none }
def fnExactPointOnRow : OpenClaim := { program := "ytllpcbbomcmpbaa", sum := "d7fb91dcb0d2b365cd4918efdf155a769fc2bb29470a9e4349c6b45f86dccbb8", func := "loop.example/levellingnet/laws.FnExactPointOn", spec := "fnExactPointOn", apart := false }
def FnExactPointOnSaid : Prop := fnExactPointOnRow.holds Try.pinned (OpenSpec.ofChange fnExactPointOnSpec)

/-- ITS FALSE NEIGHBOUR: 'it returns false'. Refute it at one input. -/
def fnExactPointOnWrong : ChangeSpec := { name := "fnExactPointOn", fn := fun _ => fun
  | [d1, d2, d3] => { results := [.lit (.bool false)], args := [d1, d2, d3] }
  | _ => none }
def FnExactPointOnWrongFalsely : Prop := fnExactPointOnRow.holds Try.pinned (OpenSpec.ofChange fnExactPointOnWrong)

/-- 'laws.FnExactPointFar': WHATEVER THE INPUT: true; the input reads as it did. -/
def fnExactPointFarSpec : ChangeSpec := { name := "fnExactPointFar", fn := fun _ => fun
  | [d1, d2] => { results := [.lit (.bool true)], args := [d1, d2] }
  | _ => none }
def fnExactPointFarRow : OpenClaim := { program := "ytllpcbbomcmpbaa", sum := "d7fb91dcb0d2b365cd4918efdf155a769fc2bb29470a9e4349c6b45f86dccbb8", func := "loop.example/levellingnet/laws.FnExactPointFar", spec := "fnExactPointFar", apart := false }
def FnExactPointFarSaid : Prop := fnExactPointFarRow.holds Try.pinned (OpenSpec.ofChange fnExactPointFarSpec)

/-- ITS FALSE NEIGHBOUR: 'it returns false'. Refute it at one input. -/
def fnExactPointFarWrong : ChangeSpec := { name := "fnExactPointFar", fn := fun _ => fun
  | [d1, d2] => { results := [.lit (.bool false)], args := [d1, d2] }
  | _ => none }
def FnExactPointFarWrongFalsely : Prop := fnExactPointFarRow.holds Try.pinned (OpenSpec.ofChange fnExactPointFarWrong)

/-- 'laws.FnExactPointGaps': WHATEVER THE INPUT: true; the input reads as it did. -/
def fnExactPointGapsSpec : ChangeSpec := { name := "fnExactPointGaps", fn := fun _ => fun
  | [d1, d2] => { results := [.lit (.bool true)], args := [d1, d2] }
  | _ => none }
def fnExactPointGapsRow : OpenClaim := { program := "ytllpcbbomcmpbaa", sum := "d7fb91dcb0d2b365cd4918efdf155a769fc2bb29470a9e4349c6b45f86dccbb8", func := "loop.example/levellingnet/laws.FnExactPointGaps", spec := "fnExactPointGaps", apart := false }
def FnExactPointGapsSaid : Prop := fnExactPointGapsRow.holds Try.pinned (OpenSpec.ofChange fnExactPointGapsSpec)

/-- ITS FALSE NEIGHBOUR: 'it returns false'. Refute it at one input. -/
def fnExactPointGapsWrong : ChangeSpec := { name := "fnExactPointGaps", fn := fun _ => fun
  | [d1, d2] => { results := [.lit (.bool false)], args := [d1, d2] }
  | _ => none }
def FnExactPointGapsWrongFalsely : Prop := fnExactPointGapsRow.holds Try.pinned (OpenSpec.ofChange fnExactPointGapsWrong)

/- THE SECOND FORM. 'bulk': how many values and letters a reading holds, each counted each time it is reached (what is shared counts as often as it is met; a slice's spare places count too). A statement '..UptoSaid' is the law's where the arguments, and the package variables that the reading takes, are together of bulk at most 1048576: NARROWER than '..Said'. Prove '..Said' where nothing that the law and all that it calls make is longer than what came in: it says more and counts as full. Else prove '..UptoSaid'. A law counts once. -/
mutual
def uptoBulk {H : Type} : DataW H → Nat
  | .lit (.string bytes) => bytes.length + 1
  | .lit _ => 1
  | .nil => 1
  | .ptr d => uptoBulk d + 1
  | .slice elems spare => uptoBulkAll elems + uptoBulkAll spare + 1
  | .agg parts => uptoBulkAll parts + 1
  | .iface _ d => uptoBulk d + 1
  | .map entries => uptoBulkEntries entries + 1
  | .held _ => 1
def uptoBulkAll {H : Type} : List (DataW H) → Nat
  | [] => 0
  | d :: r => uptoBulk d + uptoBulkAll r
def uptoBulkEntries {H : Type} : List (Lit × DataW H) → Nat
  | [] => 0
  | x :: r => uptoBulkEntry x + uptoBulkEntries r
def uptoBulkEntry {H : Type} : Lit × DataW H → Nat
  | (.string bytes, d) => bytes.length + uptoBulk d + 1
  | (_, d) => uptoBulk d + 1
 end
def uptoSmall : (H : Type) → List (DataW H) → Bool := fun _ ds => decide (uptoBulkAll ds ≤ 1048576)
def OpenSpec.upto (s : _root_.Go.ChangeSpec) : _root_.Go.OpenSpec := { _root_.Go.OpenSpec.ofChange s with cond := some uptoSmall }

/-- 'laws.FnPointStep', WHERE WHAT IT READS IS OF BULK AT MOST 1048576: true; the input reads as it did. -/
def fnPointStepUptoRow : OpenClaim := { program := "ytllpcbbomcmpbaa", sum := "d7fb91dcb0d2b365cd4918efdf155a769fc2bb29470a9e4349c6b45f86dccbb8", func := "loop.example/levellingnet/laws.FnPointStep", spec := "fnPointStep", apart := false, narrowed := true }
def FnPointStepUptoSaid : Prop := fnPointStepUptoRow.holds Try.pinned (OpenSpec.upto fnPointStepSpec)

/-- 'laws.FnPointSide', WHERE WHAT IT READS IS OF BULK AT MOST 1048576: true; the input reads as it did. -/
def fnPointSideUptoRow : OpenClaim := { program := "ytllpcbbomcmpbaa", sum := "d7fb91dcb0d2b365cd4918efdf155a769fc2bb29470a9e4349c6b45f86dccbb8", func := "loop.example/levellingnet/laws.FnPointSide", spec := "fnPointSide", apart := false, narrowed := true }
def FnPointSideUptoSaid : Prop := fnPointSideUptoRow.holds Try.pinned (OpenSpec.upto fnPointSideSpec)

/-- 'laws.FnPointOn', WHERE WHAT IT READS IS OF BULK AT MOST 1048576: true; the input reads as it did. -/
def fnPointOnUptoRow : OpenClaim := { program := "ytllpcbbomcmpbaa", sum := "d7fb91dcb0d2b365cd4918efdf155a769fc2bb29470a9e4349c6b45f86dccbb8", func := "loop.example/levellingnet/laws.FnPointOn", spec := "fnPointOn", apart := false, narrowed := true }
def FnPointOnUptoSaid : Prop := fnPointOnUptoRow.holds Try.pinned (OpenSpec.upto fnPointOnSpec)

/-- 'laws.FnPointGaps', WHERE WHAT IT READS IS OF BULK AT MOST 1048576: true; the input reads as it did. -/
def fnPointGapsUptoRow : OpenClaim := { program := "ytllpcbbomcmpbaa", sum := "d7fb91dcb0d2b365cd4918efdf155a769fc2bb29470a9e4349c6b45f86dccbb8", func := "loop.example/levellingnet/laws.FnPointGaps", spec := "fnPointGaps", apart := false, narrowed := true }
def FnPointGapsUptoSaid : Prop := fnPointGapsUptoRow.holds Try.pinned (OpenSpec.upto fnPointGapsSpec)

/-- 'laws.FnPointFar', WHERE WHAT IT READS IS OF BULK AT MOST 1048576: true; the input reads as it did. -/
def fnPointFarUptoRow : OpenClaim := { program := "ytllpcbbomcmpbaa", sum := "d7fb91dcb0d2b365cd4918efdf155a769fc2bb29470a9e4349c6b45f86dccbb8", func := "loop.example/levellingnet/laws.FnPointFar", spec := "fnPointFar", apart := false, narrowed := true }
def FnPointFarUptoSaid : Prop := fnPointFarUptoRow.holds Try.pinned (OpenSpec.upto fnPointFarSpec)

/-- 'laws.FnExactPointValid', WHERE WHAT IT READS IS OF BULK AT MOST 1048576: true; the input reads as it did. -/
def fnExactPointValidUptoRow : OpenClaim := { program := "ytllpcbbomcmpbaa", sum := "d7fb91dcb0d2b365cd4918efdf155a769fc2bb29470a9e4349c6b45f86dccbb8", func := "loop.example/levellingnet/laws.FnExactPointValid", spec := "fnExactPointValid", apart := false, narrowed := true }
def FnExactPointValidUptoSaid : Prop := fnExactPointValidUptoRow.holds Try.pinned (OpenSpec.upto fnExactPointValidSpec)

/-- 'laws.FnExactPointStep', WHERE WHAT IT READS IS OF BULK AT MOST 1048576: true; the input reads as it did. -/
def fnExactPointStepUptoRow : OpenClaim := { program := "ytllpcbbomcmpbaa", sum := "d7fb91dcb0d2b365cd4918efdf155a769fc2bb29470a9e4349c6b45f86dccbb8", func := "loop.example/levellingnet/laws.FnExactPointStep", spec := "fnExactPointStep", apart := false, narrowed := true }
def FnExactPointStepUptoSaid : Prop := fnExactPointStepUptoRow.holds Try.pinned (OpenSpec.upto fnExactPointStepSpec)

/-- 'laws.FnExactPointMove', WHERE WHAT IT READS IS OF BULK AT MOST 1048576: true; the input reads as it did. -/
def fnExactPointMoveUptoRow : OpenClaim := { program := "ytllpcbbomcmpbaa", sum := "d7fb91dcb0d2b365cd4918efdf155a769fc2bb29470a9e4349c6b45f86dccbb8", func := "loop.example/levellingnet/laws.FnExactPointMove", spec := "fnExactPointMove", apart := false, narrowed := true }
def FnExactPointMoveUptoSaid : Prop := fnExactPointMoveUptoRow.holds Try.pinned (OpenSpec.upto fnExactPointMoveSpec)

/-- 'laws.FnExactPointSide', WHERE WHAT IT READS IS OF BULK AT MOST 1048576: true; the input reads as it did. -/
def fnExactPointSideUptoRow : OpenClaim := { program := "ytllpcbbomcmpbaa", sum := "d7fb91dcb0d2b365cd4918efdf155a769fc2bb29470a9e4349c6b45f86dccbb8", func := "loop.example/levellingnet/laws.FnExactPointSide", spec := "fnExactPointSide", apart := false, narrowed := true }
def FnExactPointSideUptoSaid : Prop := fnExactPointSideUptoRow.holds Try.pinned (OpenSpec.upto fnExactPointSideSpec)

/-- 'laws.FnExactPointOn', WHERE WHAT IT READS IS OF BULK AT MOST 1048576: true; the input reads as it did. -/
def fnExactPointOnUptoRow : OpenClaim := { program := "ytllpcbbomcmpbaa", sum := "d7fb91dcb0d2b365cd4918efdf155a769fc2bb29470a9e4349c6b45f86dccbb8", func := "loop.example/levellingnet/laws.FnExactPointOn", spec := "fnExactPointOn", apart := false, narrowed := true }
def FnExactPointOnUptoSaid : Prop := fnExactPointOnUptoRow.holds Try.pinned (OpenSpec.upto fnExactPointOnSpec)

/-- 'laws.FnExactPointFar', WHERE WHAT IT READS IS OF BULK AT MOST 1048576: true; the input reads as it did. -/
def fnExactPointFarUptoRow : OpenClaim := { program := "ytllpcbbomcmpbaa", sum := "d7fb91dcb0d2b365cd4918efdf155a769fc2bb29470a9e4349c6b45f86dccbb8", func := "loop.example/levellingnet/laws.FnExactPointFar", spec := "fnExactPointFar", apart := false, narrowed := true }
def FnExactPointFarUptoSaid : Prop := fnExactPointFarUptoRow.holds Try.pinned (OpenSpec.upto fnExactPointFarSpec)

/-- 'laws.FnExactPointGaps', WHERE WHAT IT READS IS OF BULK AT MOST 1048576: true; the input reads as it did. -/
def fnExactPointGapsUptoRow : OpenClaim := { program := "ytllpcbbomcmpbaa", sum := "d7fb91dcb0d2b365cd4918efdf155a769fc2bb29470a9e4349c6b45f86dccbb8", func := "loop.example/levellingnet/laws.FnExactPointGaps", spec := "fnExactPointGaps", apart := false, narrowed := true }
def FnExactPointGapsUptoSaid : Prop := fnExactPointGapsUptoRow.holds Try.pinned (OpenSpec.upto fnExactPointGapsSpec)

end Rows
end Go.Proofs.Ytllpcbbomcmpbaa
