/-
  No cell of these rows narrows 'for every input' (looked for: loops, veiled, ifaces, maps, wideKeys, modest, calm, conditions, laid).
  DERIVED. THE GIVEN ROWS OF THIS SEAT. 3 by the template 'for every input the law returns true; each argument reads behind the call as it read before'; 0 by the template 'total and deterministic' (their statements: YtenllemaccacgabTotals.lean).
  GIVEN WITH THE SEED: the statements are not yours to turn. If you find one false, say at which input.
  Laid BY PROGRAM, IN A SANDBOX (cutbox-rows.mjs): the forced cells as the released guide's own fill.sh prints them over the translation e6248dff604d2c7b… (all of the seat's roots in one cut). By AI agents, Wed Nov 11 2026. No macro, syntax, notation, axiom, sorry.
-/
import Derived.Test.YtenllemaccacgabChecked
import GoSem.Claim
import GoSem.ClaimJoined
import GoSem.ClaimMapViews
import Derived.JoinedTies
import Derived.KernelRfl
namespace Go.Proofs.Ytenllemaccacgab
/- THE CELL 'sum', in the pinned program and in every row, IS THE sha256 OF THE DUMP (.gsa) THAT YtenllemaccacgabProg.lean LOADS. Nothing in Lean hashes anything: it is a label: what it is worth is what the hold of that sum in a sandbox is worth. -/
noncomputable def Try.pinned : Pinned := { name := "ytenllemaccacgab", sum := "e6248dff604d2c7b3d7486c5a25b4db7f862df63baa2fd97462df11f5a793939", checked := Try.checked }
namespace Rows
def none {H : Type} : Left H := { results := [], args := [] }

/-- 'laws.FnExactNetMatrix': WHATEVER THE INPUT: true; the input reads as it did. -/
def fnExactNetMatrixSpec : ChangeSpec := { name := "fnExactNetMatrix", fn := fun _ => fun
  | [d1, d2] => { results := [.lit (.bool true)], args := [d1, d2] }
  | _ => none }
def fnExactNetMatrixRow : OpenClaim := { program := "ytenllemaccacgab", sum := "e6248dff604d2c7b3d7486c5a25b4db7f862df63baa2fd97462df11f5a793939", func := "loop.example/levellingnet/laws.FnExactNetMatrix", spec := "fnExactNetMatrix", unfollowed := true, recurses := true, apart := false }
def FnExactNetMatrixSaid : Prop := fnExactNetMatrixRow.holds Try.pinned (OpenSpec.ofChange fnExactNetMatrixSpec)

/-- ITS FALSE NEIGHBOUR: 'it returns false'. Refute it at one input. -/
def fnExactNetMatrixWrong : ChangeSpec := { name := "fnExactNetMatrix", fn := fun _ => fun
  | [d1, d2] => { results := [.lit (.bool false)], args := [d1, d2] }
  | _ => none }
def FnExactNetMatrixWrongFalsely : Prop := fnExactNetMatrixRow.holds Try.pinned (OpenSpec.ofChange fnExactNetMatrixWrong)

/-- 'laws.FnExactNetTrees': WHATEVER THE INPUT: true; the input reads as it did. -/
def fnExactNetTreesSpec : ChangeSpec := { name := "fnExactNetTrees", fn := fun _ => fun
  | [d1, d2] => { results := [.lit (.bool true)], args := [d1, d2] }
  | _ => none }
def fnExactNetTreesRow : OpenClaim := { program := "ytenllemaccacgab", sum := "e6248dff604d2c7b3d7486c5a25b4db7f862df63baa2fd97462df11f5a793939", func := "loop.example/levellingnet/laws.FnExactNetTrees", spec := "fnExactNetTrees", unfollowed := true, recurses := true, apart := false }
def FnExactNetTreesSaid : Prop := fnExactNetTreesRow.holds Try.pinned (OpenSpec.ofChange fnExactNetTreesSpec)

/-- ITS FALSE NEIGHBOUR: 'it returns false'. Refute it at one input. -/
def fnExactNetTreesWrong : ChangeSpec := { name := "fnExactNetTrees", fn := fun _ => fun
  | [d1, d2] => { results := [.lit (.bool false)], args := [d1, d2] }
  | _ => none }
def FnExactNetTreesWrongFalsely : Prop := fnExactNetTreesRow.holds Try.pinned (OpenSpec.ofChange fnExactNetTreesWrong)

/-- 'laws.FnExactAdjustTry': WHATEVER THE INPUT: true; the input reads as it did. -/
def fnExactAdjustTrySpec : ChangeSpec := { name := "fnExactAdjustTry", fn := fun _ => fun
  | [d1, d2, d3] => { results := [.lit (.bool true)], args := [d1, d2, d3] }
  | _ => none }
def fnExactAdjustTryRow : OpenClaim := { program := "ytenllemaccacgab", sum := "e6248dff604d2c7b3d7486c5a25b4db7f862df63baa2fd97462df11f5a793939", func := "loop.example/levellingnet/laws.FnExactAdjustTry", spec := "fnExactAdjustTry", apart := false }
def FnExactAdjustTrySaid : Prop := fnExactAdjustTryRow.holds Try.pinned (OpenSpec.ofChange fnExactAdjustTrySpec)

/-- ITS FALSE NEIGHBOUR: 'it returns false'. Refute it at one input. -/
def fnExactAdjustTryWrong : ChangeSpec := { name := "fnExactAdjustTry", fn := fun _ => fun
  | [d1, d2, d3] => { results := [.lit (.bool false)], args := [d1, d2, d3] }
  | _ => none }
def FnExactAdjustTryWrongFalsely : Prop := fnExactAdjustTryRow.holds Try.pinned (OpenSpec.ofChange fnExactAdjustTryWrong)

/- THE SECOND FORM. 'bulk': how many values and letters a reading holds, each counted each time it is reached (what is shared counts as often as it is met; a slice's spare places count too). A statement '..UptoSaid' is the law's where the arguments, and the package variables that the reading takes, are together of bulk at most 1048576: NARROWER than '..Said'. Prove '..Said' where nothing that the law and all that it calls make is longer than what came in: it says more and counts as full. Else prove '..UptoSaid'. A law counts once. -/
mutual
def uptoBulk {H : Type} : DataW H → Nat
  | .lit (.string bytes) => bytes.length + 1
  | .lit _ => 1
  | .nil => 1
  | .ptr d => uptoBulk d + 1
  | .slice elems spare => uptoBulkAll elems + uptoBulkAll spare + 1
  | .agg parts => uptoBulkAll parts + 1
  | .iface _ d => uptoBulk d + 1
  | .map entries => uptoBulkEntries entries + 1
  | .held _ => 1
def uptoBulkAll {H : Type} : List (DataW H) → Nat
  | [] => 0
  | d :: r => uptoBulk d + uptoBulkAll r
def uptoBulkEntries {H : Type} : List (Lit × DataW H) → Nat
  | [] => 0
  | x :: r => uptoBulkEntry x + uptoBulkEntries r
def uptoBulkEntry {H : Type} : Lit × DataW H → Nat
  | (.string bytes, d) => bytes.length + uptoBulk d + 1
  | (_, d) => uptoBulk d + 1
 end
def uptoSmall : (H : Type) → List (DataW H) → Bool := fun _ ds => decide (uptoBulkAll ds ≤ 1048576)
def OpenSpec.upto (s : _root_.Go.ChangeSpec) : _root_.Go.OpenSpec := { _root_.Go.OpenSpec.ofChange s with cond := some uptoSmall }

/-- 'laws.FnExactNetMatrix', WHERE WHAT IT READS IS OF BULK AT MOST 1048576: true; the input reads as it did. -/
def fnExactNetMatrixUptoRow : OpenClaim := { program := "ytenllemaccacgab", sum := "e6248dff604d2c7b3d7486c5a25b4db7f862df63baa2fd97462df11f5a793939", func := "loop.example/levellingnet/laws.FnExactNetMatrix", spec := "fnExactNetMatrix", unfollowed := true, recurses := true, apart := false, narrowed := true }
def FnExactNetMatrixUptoSaid : Prop := fnExactNetMatrixUptoRow.holds Try.pinned (OpenSpec.upto fnExactNetMatrixSpec)

/-- 'laws.FnExactNetTrees', WHERE WHAT IT READS IS OF BULK AT MOST 1048576: true; the input reads as it did. -/
def fnExactNetTreesUptoRow : OpenClaim := { program := "ytenllemaccacgab", sum := "e6248dff604d2c7b3d7486c5a25b4db7f862df63baa2fd97462df11f5a793939", func := "loop.example/levellingnet/laws.FnExactNetTrees", spec := "fnExactNetTrees", unfollowed := true, recurses := true, apart := false, narrowed := true }
def FnExactNetTreesUptoSaid : Prop := fnExactNetTreesUptoRow.holds Try.pinned (OpenSpec.upto fnExactNetTreesSpec)

/-- 'laws.FnExactAdjustTry', WHERE WHAT IT READS IS OF BULK AT MOST 1048576: true; the input reads as it did. -/
def fnExactAdjustTryUptoRow : OpenClaim := { program := "ytenllemaccacgab", sum := "e6248dff604d2c7b3d7486c5a25b4db7f862df63baa2fd97462df11f5a793939", func := "loop.example/levellingnet/laws.FnExactAdjustTry", spec := "fnExactAdjustTry", apart := false, narrowed := true }
def FnExactAdjustTryUptoSaid : Prop := fnExactAdjustTryUptoRow.holds Try.pinned (OpenSpec.upto fnExactAdjustTrySpec)

end Rows
end Go.Proofs.Ytenllemaccacgab
