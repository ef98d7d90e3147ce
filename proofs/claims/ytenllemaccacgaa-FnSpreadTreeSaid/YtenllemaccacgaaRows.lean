/-
  No cell of these rows narrows 'for every input' (looked for: loops, veiled, ifaces, maps, wideKeys, modest, calm, conditions, laid).
  DERIVED. THE GIVEN ROWS OF THIS SEAT. 16 by the template 'for every input the law returns true; each argument reads behind the call as it read before'; 0 by the template 'total and deterministic' (their statements: YtenllemaccacgaaTotals.lean).
  GIVEN WITH THE SEED: the statements are not yours to turn. If you find one false, say at which input.
  Laid BY PROGRAM, IN A SANDBOX (cutbox-rows.mjs): the forced cells as the released guide's own fill.sh prints them over the translation a844fd77f6b842f1… (all of the seat's roots in one cut). By AI agents, Wed Nov 11 2026. No macro, syntax, notation, axiom, sorry.
-/
import Derived.Test.YtenllemaccacgaaChecked
import GoSem.Claim
import GoSem.ClaimJoined
import GoSem.ClaimMapViews
import Derived.JoinedTies
import Derived.KernelRfl
namespace Go.Proofs.Ytenllemaccacgaa
/- THE CELL 'sum', in the pinned program and in every row, IS THE sha256 OF THE DUMP (.gsa) THAT YtenllemaccacgaaProg.lean LOADS. Nothing in Lean hashes anything: it is a label: what it is worth is what the hold of that sum in a sandbox is worth. -/
noncomputable def Try.pinned : Pinned := { name := "ytenllemaccacgaa", sum := "a844fd77f6b842f19896116edde73e318e6765014f408b9438423a8fa7839102", checked := Try.checked }
namespace Rows
def none {H : Type} : Left H := { results := [], args := [] }

/-- 'laws.FnSpread': WHATEVER THE INPUT: true; the input reads as it did. -/
def fnSpreadSpec : ChangeSpec := { name := "fnSpread", fn := fun _ => fun
  | [d1, d2] => { results := [.lit (.bool true)], args := [d1, d2] }
  | _ => none }
def fnSpreadRow : OpenClaim := { program := "ytenllemaccacgaa", sum := "a844fd77f6b842f19896116edde73e318e6765014f408b9438423a8fa7839102", func := "loop.example/levellingnet/laws.FnSpread", spec := "fnSpread", unfollowed := true, recurses := true, apart := false }
def FnSpreadSaid : Prop := fnSpreadRow.holds Try.pinned (OpenSpec.ofChange fnSpreadSpec)

/-- ITS FALSE NEIGHBOUR: 'it returns false'. Refute it at one input. -/
def fnSpreadWrong : ChangeSpec := { name := "fnSpread", fn := fun _ => fun
  | [d1, d2] => { results := [.lit (.bool false)], args := [d1, d2] }
  | _ => none }
def FnSpreadWrongFalsely : Prop := fnSpreadRow.holds Try.pinned (OpenSpec.ofChange fnSpreadWrong)

/-- 'laws.FnSpreadMore': WHATEVER THE INPUT: true; the input reads as it did. -/
def fnSpreadMoreSpec : ChangeSpec := { name := "fnSpreadMore", fn := fun _ => fun
  | [d] => { results := [.lit (.bool true)], args := [d] }
  | _ => none }
def fnSpreadMoreRow : OpenClaim := { program := "ytenllemaccacgaa", sum := "a844fd77f6b842f19896116edde73e318e6765014f408b9438423a8fa7839102", func := "loop.example/levellingnet/laws.FnSpreadMore", spec := "fnSpreadMore", unfollowed := true, recurses := true, apart := false }
def FnSpreadMoreSaid : Prop := fnSpreadMoreRow.holds Try.pinned (OpenSpec.ofChange fnSpreadMoreSpec)

/-- ITS FALSE NEIGHBOUR: 'it returns false'. Refute it at one input. -/
def fnSpreadMoreWrong : ChangeSpec := { name := "fnSpreadMore", fn := fun _ => fun
  | [d] => { results := [.lit (.bool false)], args := [d] }
  | _ => none }
def FnSpreadMoreWrongFalsely : Prop := fnSpreadMoreRow.holds Try.pinned (OpenSpec.ofChange fnSpreadMoreWrong)

/-- 'laws.FnSpreadTree': WHATEVER THE INPUT: true; the input reads as it did. -/
def fnSpreadTreeSpec : ChangeSpec := { name := "fnSpreadTree", fn := fun _ => fun
  | [d] => { results := [.lit (.bool true)], args := [d] }
  | _ => none }
def fnSpreadTreeRow : OpenClaim := { program := "ytenllemaccacgaa", sum := "a844fd77f6b842f19896116edde73e318e6765014f408b9438423a8fa7839102", func := "loop.example/levellingnet/laws.FnSpreadTree", spec := "fnSpreadTree", unfollowed := true, recurses := true, apart := false }
def FnSpreadTreeSaid : Prop := fnSpreadTreeRow.holds Try.pinned (OpenSpec.ofChange fnSpreadTreeSpec)

/-- ITS FALSE NEIGHBOUR: 'it returns false'. Refute it at one input. -/
def fnSpreadTreeWrong : ChangeSpec := { name := "fnSpreadTree", fn := fun _ => fun
  | [d] => { results := [.lit (.bool false)], args := [d] }
  | _ => none }
def FnSpreadTreeWrongFalsely : Prop := fnSpreadTreeRow.holds Try.pinned (OpenSpec.ofChange fnSpreadTreeWrong)

/-- 'laws.FnSpreadFree': WHATEVER THE INPUT: true; the input reads as it did. -/
def fnSpreadFreeSpec : ChangeSpec := { name := "fnSpreadFree", fn := fun _ => fun
  | [d] => { results := [.lit (.bool true)], args := [d] }
  | _ => none }
def fnSpreadFreeRow : OpenClaim := { program := "ytenllemaccacgaa", sum := "a844fd77f6b842f19896116edde73e318e6765014f408b9438423a8fa7839102", func := "loop.example/levellingnet/laws.FnSpreadFree", spec := "fnSpreadFree", unfollowed := true, recurses := true, apart := false }
def FnSpreadFreeSaid : Prop := fnSpreadFreeRow.holds Try.pinned (OpenSpec.ofChange fnSpreadFreeSpec)

/-- ITS FALSE NEIGHBOUR: 'it returns false'. Refute it at one input. -/
def fnSpreadFreeWrong : ChangeSpec := { name := "fnSpreadFree", fn := fun _ => fun
  | [d] => { results := [.lit (.bool false)], args := [d] }
  | _ => none }
def FnSpreadFreeWrongFalsely : Prop := fnSpreadFreeRow.holds Try.pinned (OpenSpec.ofChange fnSpreadFreeWrong)

/-- 'laws.FnSpreadTrees': WHATEVER THE INPUT: true; the input reads as it did. -/
def fnSpreadTreesSpec : ChangeSpec := { name := "fnSpreadTrees", fn := fun _ => fun
  | [d] => { results := [.lit (.bool true)], args := [d] }
  | _ => none }
def fnSpreadTreesRow : OpenClaim := { program := "ytenllemaccacgaa", sum := "a844fd77f6b842f19896116edde73e318e6765014f408b9438423a8fa7839102", func := "loop.example/levellingnet/laws.FnSpreadTrees", spec := "fnSpreadTrees", unfollowed := true, recurses := true, apart := false }
def FnSpreadTreesSaid : Prop := fnSpreadTreesRow.holds Try.pinned (OpenSpec.ofChange fnSpreadTreesSpec)

/-- ITS FALSE NEIGHBOUR: 'it returns false'. Refute it at one input. -/
def fnSpreadTreesWrong : ChangeSpec := { name := "fnSpreadTrees", fn := fun _ => fun
  | [d] => { results := [.lit (.bool false)], args := [d] }
  | _ => none }
def FnSpreadTreesWrongFalsely : Prop := fnSpreadTreesRow.holds Try.pinned (OpenSpec.ofChange fnSpreadTreesWrong)

/-- 'laws.FnSpreadWorst': WHATEVER THE INPUT: true; the input reads as it did. -/
def fnSpreadWorstSpec : ChangeSpec := { name := "fnSpreadWorst", fn := fun _ => fun
  | [d] => { results := [.lit (.bool true)], args := [d] }
  | _ => none }
def fnSpreadWorstRow : OpenClaim := { program := "ytenllemaccacgaa", sum := "a844fd77f6b842f19896116edde73e318e6765014f408b9438423a8fa7839102", func := "loop.example/levellingnet/laws.FnSpreadWorst", spec := "fnSpreadWorst", unfollowed := true, recurses := true, apart := false }
def FnSpreadWorstSaid : Prop := fnSpreadWorstRow.holds Try.pinned (OpenSpec.ofChange fnSpreadWorstSpec)

/-- ITS FALSE NEIGHBOUR: 'it returns false'. Refute it at one input. -/
def fnSpreadWorstWrong : ChangeSpec := { name := "fnSpreadWorst", fn := fun _ => fun
  | [d] => { results := [.lit (.bool false)], args := [d] }
  | _ => none }
def FnSpreadWorstWrongFalsely : Prop := fnSpreadWorstRow.holds Try.pinned (OpenSpec.ofChange fnSpreadWorstWrong)

/-- 'laws.FnSpreadJoin': WHATEVER THE INPUT: true; the input reads as it did. -/
def fnSpreadJoinSpec : ChangeSpec := { name := "fnSpreadJoin", fn := fun _ => fun
  | [d] => { results := [.lit (.bool true)], args := [d] }
  | _ => none }
def fnSpreadJoinRow : OpenClaim := { program := "ytenllemaccacgaa", sum := "a844fd77f6b842f19896116edde73e318e6765014f408b9438423a8fa7839102", func := "loop.example/levellingnet/laws.FnSpreadJoin", spec := "fnSpreadJoin", unfollowed := true, recurses := true, apart := false }
def FnSpreadJoinSaid : Prop := fnSpreadJoinRow.holds Try.pinned (OpenSpec.ofChange fnSpreadJoinSpec)

/-- ITS FALSE NEIGHBOUR: 'it returns false'. Refute it at one input. -/
def fnSpreadJoinWrong : ChangeSpec := { name := "fnSpreadJoin", fn := fun _ => fun
  | [d] => { results := [.lit (.bool false)], args := [d] }
  | _ => none }
def FnSpreadJoinWrongFalsely : Prop := fnSpreadJoinRow.holds Try.pinned (OpenSpec.ofChange fnSpreadJoinWrong)

/-- 'laws.FnSpreadSeries': WHATEVER THE INPUT: true; the input reads as it did. -/
def fnSpreadSeriesSpec : ChangeSpec := { name := "fnSpreadSeries", fn := fun _ => fun
  | [d] => { results := [.lit (.bool true)], args := [d] }
  | _ => none }
def fnSpreadSeriesRow : OpenClaim := { program := "ytenllemaccacgaa", sum := "a844fd77f6b842f19896116edde73e318e6765014f408b9438423a8fa7839102", func := "loop.example/levellingnet/laws.FnSpreadSeries", spec := "fnSpreadSeries", unfollowed := true, recurses := true, apart := false }
def FnSpreadSeriesSaid : Prop := fnSpreadSeriesRow.holds Try.pinned (OpenSpec.ofChange fnSpreadSeriesSpec)

/-- ITS FALSE NEIGHBOUR: 'it returns false'. Refute it at one input. -/
def fnSpreadSeriesWrong : ChangeSpec := { name := "fnSpreadSeries", fn := fun _ => fun
  | [d] => { results := [.lit (.bool false)], args := [d] }
  | _ => none }
def FnSpreadSeriesWrongFalsely : Prop := fnSpreadSeriesRow.holds Try.pinned (OpenSpec.ofChange fnSpreadSeriesWrong)

/-- 'laws.FnExactSpreadOf': WHATEVER THE INPUT: true; the input reads as it did. -/
def fnExactSpreadOfSpec : ChangeSpec := { name := "fnExactSpreadOf", fn := fun _ => fun
  | [d1, d2, d3, d4] => { results := [.lit (.bool true)], args := [d1, d2, d3, d4] }
  | _ => none }
def fnExactSpreadOfRow : OpenClaim := { program := "ytenllemaccacgaa", sum := "a844fd77f6b842f19896116edde73e318e6765014f408b9438423a8fa7839102", func := "loop.example/levellingnet/laws.FnExactSpreadOf", spec := "fnExactSpreadOf", unfollowed := true, recurses := true, apart := false }
def FnExactSpreadOfSaid : Prop := fnExactSpreadOfRow.holds Try.pinned (OpenSpec.ofChange fnExactSpreadOfSpec)

/-- ITS FALSE NEIGHBOUR: 'it returns false'. Refute it at one input. -/
def fnExactSpreadOfWrong : ChangeSpec := { name := "fnExactSpreadOf", fn := fun _ => fun
  | [d1, d2, d3, d4] => { results := [.lit (.bool false)], args := [d1, d2, d3, d4] }
  | _ => none }
def FnExactSpreadOfWrongFalsely : Prop := fnExactSpreadOfRow.holds Try.pinned (OpenSpec.ofChange fnExactSpreadOfWrong)

/-- 'laws.FnExactSpreadRun': WHATEVER THE INPUT: true; the input reads as it did. -/
def fnExactSpreadRunSpec : ChangeSpec := { name := "fnExactSpreadRun", fn := fun _ => fun
  | [d1, d2, d3] => { results := [.lit (.bool true)], args := [d1, d2, d3] }
  | _ => none }
def fnExactSpreadRunRow : OpenClaim := { program := "ytenllemaccacgaa", sum := "a844fd77f6b842f19896116edde73e318e6765014f408b9438423a8fa7839102", func := "loop.example/levellingnet/laws.FnExactSpreadRun", spec := "fnExactSpreadRun", unfollowed := true, recurses := true, apart := false }
def FnExactSpreadRunSaid : Prop := fnExactSpreadRunRow.holds Try.pinned (OpenSpec.ofChange fnExactSpreadRunSpec)

/-- ITS FALSE NEIGHBOUR: 'it returns false'. Refute it at one input. -/
def fnExactSpreadRunWrong : ChangeSpec := { name := "fnExactSpreadRun", fn := fun _ => fun
  | [d1, d2, d3] => { results := [.lit (.bool false)], args := [d1, d2, d3] }
  | _ => none }
def FnExactSpreadRunWrongFalsely : Prop := fnExactSpreadRunRow.holds Try.pinned (OpenSpec.ofChange fnExactSpreadRunWrong)

/-- 'laws.FnExactSpreadFree': WHATEVER THE INPUT: true; the input reads as it did. -/
def fnExactSpreadFreeSpec : ChangeSpec := { name := "fnExactSpreadFree", fn := fun _ => fun
  | [d1, d2, d3] => { results := [.lit (.bool true)], args := [d1, d2, d3] }
  | _ => none }
def fnExactSpreadFreeRow : OpenClaim := { program := "ytenllemaccacgaa", sum := "a844fd77f6b842f19896116edde73e318e6765014f408b9438423a8fa7839102", func := "loop.example/levellingnet/laws.FnExactSpreadFree", spec := "fnExactSpreadFree", unfollowed := true, recurses := true, apart := false }
def FnExactSpreadFreeSaid : Prop := fnExactSpreadFreeRow.holds Try.pinned (OpenSpec.ofChange fnExactSpreadFreeSpec)

/-- ITS FALSE NEIGHBOUR: 'it returns false'. Refute it at one input. -/
def fnExactSpreadFreeWrong : ChangeSpec := { name := "fnExactSpreadFree", fn := fun _ => fun
  | [d1, d2, d3] => { results := [.lit (.bool false)], args := [d1, d2, d3] }
  | _ => none }
def FnExactSpreadFreeWrongFalsely : Prop := fnExactSpreadFreeRow.holds Try.pinned (OpenSpec.ofChange fnExactSpreadFreeWrong)

/-- 'laws.FnExactSpreadWorst': WHATEVER THE INPUT: true; the input reads as it did. -/
def fnExactSpreadWorstSpec : ChangeSpec := { name := "fnExactSpreadWorst", fn := fun _ => fun
  | [d1, d2] => { results := [.lit (.bool true)], args := [d1, d2] }
  | _ => none }
def fnExactSpreadWorstRow : OpenClaim := { program := "ytenllemaccacgaa", sum := "a844fd77f6b842f19896116edde73e318e6765014f408b9438423a8fa7839102", func := "loop.example/levellingnet/laws.FnExactSpreadWorst", spec := "fnExactSpreadWorst", unfollowed := true, recurses := true, apart := false }
def FnExactSpreadWorstSaid : Prop := fnExactSpreadWorstRow.holds Try.pinned (OpenSpec.ofChange fnExactSpreadWorstSpec)

/-- ITS FALSE NEIGHBOUR: 'it returns false'. Refute it at one input. -/
def fnExactSpreadWorstWrong : ChangeSpec := { name := "fnExactSpreadWorst", fn := fun _ => fun
  | [d1, d2] => { results := [.lit (.bool false)], args := [d1, d2] }
  | _ => none }
def FnExactSpreadWorstWrongFalsely : Prop := fnExactSpreadWorstRow.holds Try.pinned (OpenSpec.ofChange fnExactSpreadWorstWrong)

/-- 'laws.FnMatrix': WHATEVER THE INPUT: true; the input reads as it did. -/
def fnMatrixSpec : ChangeSpec := { name := "fnMatrix", fn := fun _ => fun
  | [d] => { results := [.lit (.bool true)], args := [d] }
  | _ => none }
def fnMatrixRow : OpenClaim := { program := "ytenllemaccacgaa", sum := "a844fd77f6b842f19896116edde73e318e6765014f408b9438423a8fa7839102", func := "loop.example/levellingnet/laws.FnMatrix", spec := "fnMatrix", unfollowed := true, recurses := true, apart := false }
def FnMatrixSaid : Prop := fnMatrixRow.holds Try.pinned (OpenSpec.ofChange fnMatrixSpec)

/-- ITS FALSE NEIGHBOUR: 'it returns false'. Refute it at one input. -/
def fnMatrixWrong : ChangeSpec := { name := "fnMatrix", fn := fun _ => fun
  | [d] => { results := [.lit (.bool false)], args := [d] }
  | _ => none }
def FnMatrixWrongFalsely : Prop := fnMatrixRow.holds Try.pinned (OpenSpec.ofChange fnMatrixWrong)

/-- 'laws.FnTrees': WHATEVER THE INPUT: true; the input reads as it did. -/
def fnTreesSpec : ChangeSpec := { name := "fnTrees", fn := fun _ => fun
  | [d] => { results := [.lit (.bool true)], args := [d] }
  | _ => none }
def fnTreesRow : OpenClaim := { program := "ytenllemaccacgaa", sum := "a844fd77f6b842f19896116edde73e318e6765014f408b9438423a8fa7839102", func := "loop.example/levellingnet/laws.FnTrees", spec := "fnTrees", unfollowed := true, recurses := true, apart := false }
def FnTreesSaid : Prop := fnTreesRow.holds Try.pinned (OpenSpec.ofChange fnTreesSpec)

/-- ITS FALSE NEIGHBOUR: 'it returns false'. Refute it at one input. -/
def fnTreesWrong : ChangeSpec := { name := "fnTrees", fn := fun _ => fun
  | [d] => { results := [.lit (.bool false)], args := [d] }
  | _ => none }
def FnTreesWrongFalsely : Prop := fnTreesRow.holds Try.pinned (OpenSpec.ofChange fnTreesWrong)

/-- 'laws.FnTreesCut': WHATEVER THE INPUT: true; the input reads as it did. -/
def fnTreesCutSpec : ChangeSpec := { name := "fnTreesCut", fn := fun _ => fun
  | [d] => { results := [.lit (.bool true)], args := [d] }
  | _ => none }
def fnTreesCutRow : OpenClaim := { program := "ytenllemaccacgaa", sum := "a844fd77f6b842f19896116edde73e318e6765014f408b9438423a8fa7839102", func := "loop.example/levellingnet/laws.FnTreesCut", spec := "fnTreesCut", unfollowed := true, recurses := true, apart := false }
def FnTreesCutSaid : Prop := fnTreesCutRow.holds Try.pinned (OpenSpec.ofChange fnTreesCutSpec)

/-- ITS FALSE NEIGHBOUR: 'it returns false'. Refute it at one input. -/
def fnTreesCutWrong : ChangeSpec := { name := "fnTreesCut", fn := fun _ => fun
  | [d] => { results := [.lit (.bool false)], args := [d] }
  | _ => none }
def FnTreesCutWrongFalsely : Prop := fnTreesCutRow.holds Try.pinned (OpenSpec.ofChange fnTreesCutWrong)

/-- 'laws.FnTreesMerge': WHATEVER THE INPUT: true; the input reads as it did. -/
def fnTreesMergeSpec : ChangeSpec := { name := "fnTreesMerge", fn := fun _ => fun
  | [d1, d2] => { results := [.lit (.bool true)], args := [d1, d2] }
  | _ => none }
def fnTreesMergeRow : OpenClaim := { program := "ytenllemaccacgaa", sum := "a844fd77f6b842f19896116edde73e318e6765014f408b9438423a8fa7839102", func := "loop.example/levellingnet/laws.FnTreesMerge", spec := "fnTreesMerge", apart := false }
def FnTreesMergeSaid : Prop := fnTreesMergeRow.holds Try.pinned (OpenSpec.ofChange fnTreesMergeSpec)

/-- ITS FALSE NEIGHBOUR: 'it returns false'. Refute it at one input. -/
def fnTreesMergeWrong : ChangeSpec := { name := "fnTreesMerge", fn := fun _ => fun
  | [d1, d2] => { results := [.lit (.bool false)], args := [d1, d2] }
  | _ => none }
def FnTreesMergeWrongFalsely : Prop := fnTreesMergeRow.holds Try.pinned (OpenSpec.ofChange fnTreesMergeWrong)

/- THE SECOND FORM. 'bulk': how many values and letters a reading holds, each counted each time it is reached (what is shared counts as often as it is met; a slice's spare places count too). A statement '..UptoSaid' is the law's where the arguments, and the package variables that the reading takes, are together of bulk at most 1048576: NARROWER than '..Said'. Prove '..Said' where nothing that the law and all that it calls make is longer than what came in: it says more and counts as full. Else prove '..UptoSaid'. A law counts once. -/
mutual
def uptoBulk {H : Type} : DataW H → Nat
  | .lit (.string bytes) => bytes.length + 1
  | .lit _ => 1
  | .nil => 1
  | .ptr d => uptoBulk d + 1
  | .slice elems spare => uptoBulkAll elems + uptoBulkAll spare + 1
  | .agg parts => uptoBulkAll parts + 1
  | .iface _ d => uptoBulk d + 1
  | .map entries => uptoBulkEntries entries + 1
  | .held _ => 1
def uptoBulkAll {H : Type} : List (DataW H) → Nat
  | [] => 0
  | d :: r => uptoBulk d + uptoBulkAll r
def uptoBulkEntries {H : Type} : List (Lit × DataW H) → Nat
  | [] => 0
  | x :: r => uptoBulkEntry x + uptoBulkEntries r
def uptoBulkEntry {H : Type} : Lit × DataW H → Nat
  | (.string bytes, d) => bytes.length + uptoBulk d + 1
  | (_, d) => uptoBulk d + 1
 end
def uptoSmall : (H : Type) → List (DataW H) → Bool := fun _ ds => decide (uptoBulkAll ds ≤ 1048576)
def OpenSpec.upto (s : _root_.Go.ChangeSpec) : _root_.Go.OpenSpec := { _root_.Go.OpenSpec.ofChange s with cond := some uptoSmall }

/-- 'laws.FnSpread', WHERE WHAT IT READS IS OF BULK AT MOST 1048576: true; the input reads as it did. -/
def fnSpreadUptoRow : OpenClaim := { program := "ytenllemaccacgaa", sum := "a844fd77f6b842f19896116edde73e318e6765014f408b9438423a8fa7839102", func := "loop.example/levellingnet/laws.FnSpread", spec := "fnSpread", unfollowed := true, recurses := true, apart := false, narrowed := true }
def FnSpreadUptoSaid : Prop := fnSpreadUptoRow.holds Try.pinned (OpenSpec.upto fnSpreadSpec)

/-- 'laws.FnSpreadMore', WHERE WHAT IT READS IS OF BULK AT MOST 1048576: true; the input reads as it did. -/
def fnSpreadMoreUptoRow : OpenClaim := { program := "ytenllemaccacgaa", sum := "a844fd77f6b842f19896116edde73e318e6765014f408b9438423a8fa7839102", func := "loop.example/levellingnet/laws.FnSpreadMore", spec := "fnSpreadMore", unfollowed := true, recurses := true, apart := false, narrowed := true }
def FnSpreadMoreUptoSaid : Prop := fnSpreadMoreUptoRow.holds Try.pinned (OpenSpec.upto fnSpreadMoreSpec)

/-- 'laws.FnSpreadTree', WHERE WHAT IT READS IS OF BULK AT MOST 1048576: true; the input reads as it did. -/
def fnSpreadTreeUptoRow : OpenClaim := { program := "ytenllemaccacgaa", sum := "a844fd77f6b842f19896116edde73e318e6765014f408b9438423a8fa7839102", func := "loop.example/levellingnet/laws.FnSpreadTree", spec := "fnSpreadTree", unfollowed := true, recurses := true, apart := false, narrowed := true }
def FnSpreadTreeUptoSaid : Prop := fnSpreadTreeUptoRow.holds Try.pinned (OpenSpec.upto fnSpreadTreeSpec)

/-- 'laws.FnSpreadFree', WHERE WHAT IT READS IS OF BULK AT MOST 1048576: true; the input reads as it did. -/
def fnSpreadFreeUptoRow : OpenClaim := { program := "ytenllemaccacgaa", sum := "a844fd77f6b842f19896116edde73e318e6765014f408b9438423a8fa7839102", func := "loop.example/levellingnet/laws.FnSpreadFree", spec := "fnSpreadFree", unfollowed := true, recurses := true, apart := false, narrowed := true }
def FnSpreadFreeUptoSaid : Prop := fnSpreadFreeUptoRow.holds Try.pinned (OpenSpec.upto fnSpreadFreeSpec)

/-- 'laws.FnSpreadTrees', WHERE WHAT IT READS IS OF BULK AT MOST 1048576: true; the input reads as it did. -/
def fnSpreadTreesUptoRow : OpenClaim := { program := "ytenllemaccacgaa", sum := "a844fd77f6b842f19896116edde73e318e6765014f408b9438423a8fa7839102", func := "loop.example/levellingnet/laws.FnSpreadTrees", spec := "fnSpreadTrees", unfollowed := true, recurses := true, apart := false, narrowed := true }
def FnSpreadTreesUptoSaid : Prop := fnSpreadTreesUptoRow.holds Try.pinned (OpenSpec.upto fnSpreadTreesSpec)

/-- 'laws.FnSpreadWorst', WHERE WHAT IT READS IS OF BULK AT MOST 1048576: true; the input reads as it did. -/
def fnSpreadWorstUptoRow : OpenClaim := { program := "ytenllemaccacgaa", sum := "a844fd77f6b842f19896116edde73e318e6765014f408b9438423a8fa7839102", func := "loop.example/levellingnet/laws.FnSpreadWorst", spec := "fnSpreadWorst", unfollowed := true, recurses := true, apart := false, narrowed := true }
def FnSpreadWorstUptoSaid : Prop := fnSpreadWorstUptoRow.holds Try.pinned (OpenSpec.upto fnSpreadWorstSpec)

/-- 'laws.FnSpreadJoin', WHERE WHAT IT READS IS OF BULK AT MOST 1048576: true; the input reads as it did. -/
def fnSpreadJoinUptoRow : OpenClaim := { program := "ytenllemaccacgaa", sum := "a844fd77f6b842f19896116edde73e318e6765014f408b9438423a8fa7839102", func := "loop.example/levellingnet/laws.FnSpreadJoin", spec := "fnSpreadJoin", unfollowed := true, recurses := true, apart := false, narrowed := true }
def FnSpreadJoinUptoSaid : Prop := fnSpreadJoinUptoRow.holds Try.pinned (OpenSpec.upto fnSpreadJoinSpec)

/-- 'laws.FnSpreadSeries', WHERE WHAT IT READS IS OF BULK AT MOST 1048576: true; the input reads as it did. -/
def fnSpreadSeriesUptoRow : OpenClaim := { program := "ytenllemaccacgaa", sum := "a844fd77f6b842f19896116edde73e318e6765014f408b9438423a8fa7839102", func := "loop.example/levellingnet/laws.FnSpreadSeries", spec := "fnSpreadSeries", unfollowed := true, recurses := true, apart := false, narrowed := true }
def FnSpreadSeriesUptoSaid : Prop := fnSpreadSeriesUptoRow.holds Try.pinned (OpenSpec.upto fnSpreadSeriesSpec)

/-- 'laws.FnExactSpreadOf', WHERE WHAT IT READS IS OF BULK AT MOST 1048576: true; the input reads as it did. -/
def fnExactSpreadOfUptoRow : OpenClaim := { program := "ytenllemaccacgaa", sum := "a844fd77f6b842f19896116edde73e318e6765014f408b9438423a8fa7839102", func := "loop.example/levellingnet/laws.FnExactSpreadOf", spec := "fnExactSpreadOf", unfollowed := true, recurses := true, apart := false, narrowed := true }
def FnExactSpreadOfUptoSaid : Prop := fnExactSpreadOfUptoRow.holds Try.pinned (OpenSpec.upto fnExactSpreadOfSpec)

/-- 'laws.FnExactSpreadRun', WHERE WHAT IT READS IS OF BULK AT MOST 1048576: true; the input reads as it did. -/
def fnExactSpreadRunUptoRow : OpenClaim := { program := "ytenllemaccacgaa", sum := "a844fd77f6b842f19896116edde73e318e6765014f408b9438423a8fa7839102", func := "loop.example/levellingnet/laws.FnExactSpreadRun", spec := "fnExactSpreadRun", unfollowed := true, recurses := true, apart := false, narrowed := true }
def FnExactSpreadRunUptoSaid : Prop := fnExactSpreadRunUptoRow.holds Try.pinned (OpenSpec.upto fnExactSpreadRunSpec)

/-- 'laws.FnExactSpreadFree', WHERE WHAT IT READS IS OF BULK AT MOST 1048576: true; the input reads as it did. -/
def fnExactSpreadFreeUptoRow : OpenClaim := { program := "ytenllemaccacgaa", sum := "a844fd77f6b842f19896116edde73e318e6765014f408b9438423a8fa7839102", func := "loop.example/levellingnet/laws.FnExactSpreadFree", spec := "fnExactSpreadFree", unfollowed := true, recurses := true, apart := false, narrowed := true }
def FnExactSpreadFreeUptoSaid : Prop := fnExactSpreadFreeUptoRow.holds Try.pinned (OpenSpec.upto fnExactSpreadFreeSpec)

/-- 'laws.FnExactSpreadWorst', WHERE WHAT IT READS IS OF BULK AT MOST 1048576: true; the input reads as it did. -/
def fnExactSpreadWorstUptoRow : OpenClaim := { program := "ytenllemaccacgaa", sum := "a844fd77f6b842f19896116edde73e318e6765014f408b9438423a8fa7839102", func := "loop.example/levellingnet/laws.FnExactSpreadWorst", spec := "fnExactSpreadWorst", unfollowed := true, recurses := true, apart := false, narrowed := true }
def FnExactSpreadWorstUptoSaid : Prop := fnExactSpreadWorstUptoRow.holds Try.pinned (OpenSpec.upto fnExactSpreadWorstSpec)

/-- 'laws.FnMatrix', WHERE WHAT IT READS IS OF BULK AT MOST 1048576: true; the input reads as it did. -/
def fnMatrixUptoRow : OpenClaim := { program := "ytenllemaccacgaa", sum := "a844fd77f6b842f19896116edde73e318e6765014f408b9438423a8fa7839102", func := "loop.example/levellingnet/laws.FnMatrix", spec := "fnMatrix", unfollowed := true, recurses := true, apart := false, narrowed := true }
def FnMatrixUptoSaid : Prop := fnMatrixUptoRow.holds Try.pinned (OpenSpec.upto fnMatrixSpec)

/-- 'laws.FnTrees', WHERE WHAT IT READS IS OF BULK AT MOST 1048576: true; the input reads as it did. -/
def fnTreesUptoRow : OpenClaim := { program := "ytenllemaccacgaa", sum := "a844fd77f6b842f19896116edde73e318e6765014f408b9438423a8fa7839102", func := "loop.example/levellingnet/laws.FnTrees", spec := "fnTrees", unfollowed := true, recurses := true, apart := false, narrowed := true }
def FnTreesUptoSaid : Prop := fnTreesUptoRow.holds Try.pinned (OpenSpec.upto fnTreesSpec)

/-- 'laws.FnTreesCut', WHERE WHAT IT READS IS OF BULK AT MOST 1048576: true; the input reads as it did. -/
def fnTreesCutUptoRow : OpenClaim := { program := "ytenllemaccacgaa", sum := "a844fd77f6b842f19896116edde73e318e6765014f408b9438423a8fa7839102", func := "loop.example/levellingnet/laws.FnTreesCut", spec := "fnTreesCut", unfollowed := true, recurses := true, apart := false, narrowed := true }
def FnTreesCutUptoSaid : Prop := fnTreesCutUptoRow.holds Try.pinned (OpenSpec.upto fnTreesCutSpec)

/-- 'laws.FnTreesMerge', WHERE WHAT IT READS IS OF BULK AT MOST 1048576: true; the input reads as it did. -/
def fnTreesMergeUptoRow : OpenClaim := { program := "ytenllemaccacgaa", sum := "a844fd77f6b842f19896116edde73e318e6765014f408b9438423a8fa7839102", func := "loop.example/levellingnet/laws.FnTreesMerge", spec := "fnTreesMerge", apart := false, narrowed := true }
def FnTreesMergeUptoSaid : Prop := fnTreesMergeUptoRow.holds Try.pinned (OpenSpec.upto fnTreesMergeSpec)

end Rows
end Go.Proofs.Ytenllemaccacgaa
