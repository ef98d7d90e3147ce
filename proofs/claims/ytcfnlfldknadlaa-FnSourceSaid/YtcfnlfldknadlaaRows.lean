/-
  No cell of these rows narrows 'for every input' (looked for: loops, veiled, ifaces, maps, wideKeys, modest, calm, conditions, laid).
  DERIVED. THE GIVEN ROWS OF THIS SEAT. 11 by the template 'for every input the law returns true; each argument reads behind the call as it read before'; 0 by the template 'total and deterministic' (their statements: YtcfnlfldknadlaaTotals.lean).
  GIVEN WITH THE SEED: the statements are not yours to turn. If you find one false, say at which input.
  Laid BY PROGRAM, IN A SANDBOX (cutbox-rows.mjs): the forced cells as the released guide's own fill.sh prints them over the translation 650597ef6c78608c… (all of the seat's roots in one cut). By AI agents, Wed Nov 11 2026. No macro, syntax, notation, axiom, sorry.
-/
import Derived.Test.YtcfnlfldknadlaaChecked
import GoSem.Claim
import GoSem.ClaimJoined
import GoSem.ClaimMapViews
import Derived.JoinedTies
import Derived.KernelRfl
namespace Go.Proofs.Ytcfnlfldknadlaa
/- THE CELL 'sum', in the pinned program and in every row, IS THE sha256 OF THE DUMP (.gsa) THAT YtcfnlfldknadlaaProg.lean LOADS. Nothing in Lean hashes anything: it is a label: what it is worth is what the hold of that sum in a sandbox is worth. -/
noncomputable def Try.pinned : Pinned := { name := "ytcfnlfldknadlaa", sum := "650597ef6c78608cf63ccdb64537b4290c87e6d88ee3a5e4e9d15058d95d3c2c", checked := Try.checked }
namespace Rows
def none {H : Type} : Left H := { results := [], args := [] }

/-- 'laws.FnMatrix': WHATEVER THE INPUT: true; the input reads as it did. -/
def fnMatrixSpec : ChangeSpec := { name := "fnMatrix", fn := fun _ => fun
  | [d] => { results := [.lit (.bool true)], args := [d] }
  | _ => none }
def fnMatrixRow : OpenClaim := { program := "ytcfnlfldknadlaa", sum := "650597ef6c78608cf63ccdb64537b4290c87e6d88ee3a5e4e9d15058d95d3c2c", func := "loop.example/levellingnet/laws.FnMatrix", spec := "fnMatrix", unfollowed := true, recurses := true, apart := false }
def FnMatrixSaid : Prop := fnMatrixRow.holds Try.pinned (OpenSpec.ofChange fnMatrixSpec)

/-- ITS FALSE NEIGHBOUR: 'it returns false'. Refute it at one input. -/
def fnMatrixWrong : ChangeSpec := { name := "fnMatrix", fn := fun _ => fun
  | [d] => { results := [.lit (.bool false)], args := [d] }
  | _ => none }
def FnMatrixWrongFalsely : Prop := fnMatrixRow.holds Try.pinned (OpenSpec.ofChange fnMatrixWrong)

/-- 'laws.FnTrees': WHATEVER THE INPUT: true; the input reads as it did. -/
def fnTreesSpec : ChangeSpec := { name := "fnTrees", fn := fun _ => fun
  | [d] => { results := [.lit (.bool true)], args := [d] }
  | _ => none }
def fnTreesRow : OpenClaim := { program := "ytcfnlfldknadlaa", sum := "650597ef6c78608cf63ccdb64537b4290c87e6d88ee3a5e4e9d15058d95d3c2c", func := "loop.example/levellingnet/laws.FnTrees", spec := "fnTrees", unfollowed := true, recurses := true, apart := false }
def FnTreesSaid : Prop := fnTreesRow.holds Try.pinned (OpenSpec.ofChange fnTreesSpec)

/-- ITS FALSE NEIGHBOUR: 'it returns false'. Refute it at one input. -/
def fnTreesWrong : ChangeSpec := { name := "fnTrees", fn := fun _ => fun
  | [d] => { results := [.lit (.bool false)], args := [d] }
  | _ => none }
def FnTreesWrongFalsely : Prop := fnTreesRow.holds Try.pinned (OpenSpec.ofChange fnTreesWrong)

/-- 'laws.FnTreesCut': WHATEVER THE INPUT: true; the input reads as it did. -/
def fnTreesCutSpec : ChangeSpec := { name := "fnTreesCut", fn := fun _ => fun
  | [d] => { results := [.lit (.bool true)], args := [d] }
  | _ => none }
def fnTreesCutRow : OpenClaim := { program := "ytcfnlfldknadlaa", sum := "650597ef6c78608cf63ccdb64537b4290c87e6d88ee3a5e4e9d15058d95d3c2c", func := "loop.example/levellingnet/laws.FnTreesCut", spec := "fnTreesCut", unfollowed := true, recurses := true, apart := false }
def FnTreesCutSaid : Prop := fnTreesCutRow.holds Try.pinned (OpenSpec.ofChange fnTreesCutSpec)

/-- ITS FALSE NEIGHBOUR: 'it returns false'. Refute it at one input. -/
def fnTreesCutWrong : ChangeSpec := { name := "fnTreesCut", fn := fun _ => fun
  | [d] => { results := [.lit (.bool false)], args := [d] }
  | _ => none }
def FnTreesCutWrongFalsely : Prop := fnTreesCutRow.holds Try.pinned (OpenSpec.ofChange fnTreesCutWrong)

/-- 'laws.FnTreesMerge': WHATEVER THE INPUT: true; the input reads as it did. -/
def fnTreesMergeSpec : ChangeSpec := { name := "fnTreesMerge", fn := fun _ => fun
  | [d1, d2] => { results := [.lit (.bool true)], args := [d1, d2] }
  | _ => none }
def fnTreesMergeRow : OpenClaim := { program := "ytcfnlfldknadlaa", sum := "650597ef6c78608cf63ccdb64537b4290c87e6d88ee3a5e4e9d15058d95d3c2c", func := "loop.example/levellingnet/laws.FnTreesMerge", spec := "fnTreesMerge", apart := false }
def FnTreesMergeSaid : Prop := fnTreesMergeRow.holds Try.pinned (OpenSpec.ofChange fnTreesMergeSpec)

/-- ITS FALSE NEIGHBOUR: 'it returns false'. Refute it at one input. -/
def fnTreesMergeWrong : ChangeSpec := { name := "fnTreesMerge", fn := fun _ => fun
  | [d1, d2] => { results := [.lit (.bool false)], args := [d1, d2] }
  | _ => none }
def FnTreesMergeWrongFalsely : Prop := fnTreesMergeRow.holds Try.pinned (OpenSpec.ofChange fnTreesMergeWrong)

/-- 'laws.FnSource': WHATEVER THE INPUT: true; the input reads as it did. -/
def fnSourceSpec : ChangeSpec := { name := "fnSource", fn := fun _ => fun
  | [d1, d2] => { results := [.lit (.bool true)], args := [d1, d2] }
  | _ => none }
def fnSourceRow : OpenClaim := { program := "ytcfnlfldknadlaa", sum := "650597ef6c78608cf63ccdb64537b4290c87e6d88ee3a5e4e9d15058d95d3c2c", func := "loop.example/levellingnet/laws.FnSource", spec := "fnSource", unfollowed := true, recurses := true, apart := false }
def FnSourceSaid : Prop := fnSourceRow.holds Try.pinned (OpenSpec.ofChange fnSourceSpec)

/-- ITS FALSE NEIGHBOUR: 'it returns false'. Refute it at one input. -/
def fnSourceWrong : ChangeSpec := { name := "fnSource", fn := fun _ => fun
  | [d1, d2] => { results := [.lit (.bool false)], args := [d1, d2] }
  | _ => none }
def FnSourceWrongFalsely : Prop := fnSourceRow.holds Try.pinned (OpenSpec.ofChange fnSourceWrong)

/-- 'laws.FnSourceBack': WHATEVER THE INPUT: true; the input reads as it did. -/
def fnSourceBackSpec : ChangeSpec := { name := "fnSourceBack", fn := fun _ => fun
  | [d] => { results := [.lit (.bool true)], args := [d] }
  | _ => none }
def fnSourceBackRow : OpenClaim := { program := "ytcfnlfldknadlaa", sum := "650597ef6c78608cf63ccdb64537b4290c87e6d88ee3a5e4e9d15058d95d3c2c", func := "loop.example/levellingnet/laws.FnSourceBack", spec := "fnSourceBack", apart := false }
def FnSourceBackSaid : Prop := fnSourceBackRow.holds Try.pinned (OpenSpec.ofChange fnSourceBackSpec)

/-- ITS FALSE NEIGHBOUR: 'it returns false'. Refute it at one input. -/
def fnSourceBackWrong : ChangeSpec := { name := "fnSourceBack", fn := fun _ => fun
  | [d] => { results := [.lit (.bool false)], args := [d] }
  | _ => none }
def FnSourceBackWrongFalsely : Prop := fnSourceBackRow.holds Try.pinned (OpenSpec.ofChange fnSourceBackWrong)

/-- 'laws.FnExactNetMatrix': WHATEVER THE INPUT: true; the input reads as it did. -/
def fnExactNetMatrixSpec : ChangeSpec := { name := "fnExactNetMatrix", fn := fun _ => fun
  | [d1, d2] => { results := [.lit (.bool true)], args := [d1, d2] }
  | _ => none }
def fnExactNetMatrixRow : OpenClaim := { program := "ytcfnlfldknadlaa", sum := "650597ef6c78608cf63ccdb64537b4290c87e6d88ee3a5e4e9d15058d95d3c2c", func := "loop.example/levellingnet/laws.FnExactNetMatrix", spec := "fnExactNetMatrix", unfollowed := true, recurses := true, apart := false }
def FnExactNetMatrixSaid : Prop := fnExactNetMatrixRow.holds Try.pinned (OpenSpec.ofChange fnExactNetMatrixSpec)

/-- ITS FALSE NEIGHBOUR: 'it returns false'. Refute it at one input. -/
def fnExactNetMatrixWrong : ChangeSpec := { name := "fnExactNetMatrix", fn := fun _ => fun
  | [d1, d2] => { results := [.lit (.bool false)], args := [d1, d2] }
  | _ => none }
def FnExactNetMatrixWrongFalsely : Prop := fnExactNetMatrixRow.holds Try.pinned (OpenSpec.ofChange fnExactNetMatrixWrong)

/-- 'laws.FnExactNetTrees': WHATEVER THE INPUT: true; the input reads as it did. -/
def fnExactNetTreesSpec : ChangeSpec := { name := "fnExactNetTrees", fn := fun _ => fun
  | [d1, d2] => { results := [.lit (.bool true)], args := [d1, d2] }
  | _ => none }
def fnExactNetTreesRow : OpenClaim := { program := "ytcfnlfldknadlaa", sum := "650597ef6c78608cf63ccdb64537b4290c87e6d88ee3a5e4e9d15058d95d3c2c", func := "loop.example/levellingnet/laws.FnExactNetTrees", spec := "fnExactNetTrees", unfollowed := true, recurses := true, apart := false }
def FnExactNetTreesSaid : Prop := fnExactNetTreesRow.holds Try.pinned (OpenSpec.ofChange fnExactNetTreesSpec)

/-- ITS FALSE NEIGHBOUR: 'it returns false'. Refute it at one input. -/
def fnExactNetTreesWrong : ChangeSpec := { name := "fnExactNetTrees", fn := fun _ => fun
  | [d1, d2] => { results := [.lit (.bool false)], args := [d1, d2] }
  | _ => none }
def FnExactNetTreesWrongFalsely : Prop := fnExactNetTreesRow.holds Try.pinned (OpenSpec.ofChange fnExactNetTreesWrong)

/-- 'laws.FnExactNetSource': WHATEVER THE INPUT: true; the input reads as it did. -/
def fnExactNetSourceSpec : ChangeSpec := { name := "fnExactNetSource", fn := fun _ => fun
  | [d1, d2] => { results := [.lit (.bool true)], args := [d1, d2] }
  | _ => none }
def fnExactNetSourceRow : OpenClaim := { program := "ytcfnlfldknadlaa", sum := "650597ef6c78608cf63ccdb64537b4290c87e6d88ee3a5e4e9d15058d95d3c2c", func := "loop.example/levellingnet/laws.FnExactNetSource", spec := "fnExactNetSource", apart := false }
def FnExactNetSourceSaid : Prop := fnExactNetSourceRow.holds Try.pinned (OpenSpec.ofChange fnExactNetSourceSpec)

/-- ITS FALSE NEIGHBOUR: 'it returns false'. Refute it at one input. -/
def fnExactNetSourceWrong : ChangeSpec := { name := "fnExactNetSource", fn := fun _ => fun
  | [d1, d2] => { results := [.lit (.bool false)], args := [d1, d2] }
  | _ => none }
def FnExactNetSourceWrongFalsely : Prop := fnExactNetSourceRow.holds Try.pinned (OpenSpec.ofChange fnExactNetSourceWrong)

/-- 'laws.FnExactNetWithout': WHATEVER THE INPUT: true; the input reads as it did. -/
def fnExactNetWithoutSpec : ChangeSpec := { name := "fnExactNetWithout", fn := fun _ => fun
  | [d1, d2, d3] => { results := [.lit (.bool true)], args := [d1, d2, d3] }
  | _ => none }
def fnExactNetWithoutRow : OpenClaim := { program := "ytcfnlfldknadlaa", sum := "650597ef6c78608cf63ccdb64537b4290c87e6d88ee3a5e4e9d15058d95d3c2c", func := "loop.example/levellingnet/laws.FnExactNetWithout", spec := "fnExactNetWithout", apart := false }
def FnExactNetWithoutSaid : Prop := fnExactNetWithoutRow.holds Try.pinned (OpenSpec.ofChange fnExactNetWithoutSpec)

/-- ITS FALSE NEIGHBOUR: 'it returns false'. Refute it at one input. -/
def fnExactNetWithoutWrong : ChangeSpec := { name := "fnExactNetWithout", fn := fun _ => fun
  | [d1, d2, d3] => { results := [.lit (.bool false)], args := [d1, d2, d3] }
  | _ => none }
def FnExactNetWithoutWrongFalsely : Prop := fnExactNetWithoutRow.holds Try.pinned (OpenSpec.ofChange fnExactNetWithoutWrong)

/-- 'laws.FnExactNetMerge': WHATEVER THE INPUT: true; the input reads as it did. -/
def fnExactNetMergeSpec : ChangeSpec := { name := "fnExactNetMerge", fn := fun _ => fun
  | [d1, d2, d3] => { results := [.lit (.bool true)], args := [d1, d2, d3] }
  | _ => none }
def fnExactNetMergeRow : OpenClaim := { program := "ytcfnlfldknadlaa", sum := "650597ef6c78608cf63ccdb64537b4290c87e6d88ee3a5e4e9d15058d95d3c2c", func := "loop.example/levellingnet/laws.FnExactNetMerge", spec := "fnExactNetMerge", apart := false }
def FnExactNetMergeSaid : Prop := fnExactNetMergeRow.holds Try.pinned (OpenSpec.ofChange fnExactNetMergeSpec)

/-- ITS FALSE NEIGHBOUR: 'it returns false'. Refute it at one input. -/
def fnExactNetMergeWrong : ChangeSpec := { name := "fnExactNetMerge", fn := fun _ => fun
  | [d1, d2, d3] => { results := [.lit (.bool false)], args := [d1, d2, d3] }
  | _ => none }
def FnExactNetMergeWrongFalsely : Prop := fnExactNetMergeRow.holds Try.pinned (OpenSpec.ofChange fnExactNetMergeWrong)

/- THE SECOND FORM. 'bulk': how many values and letters a reading holds, each counted each time it is reached (what is shared counts as often as it is met; a slice's spare places count too). A statement '..UptoSaid' is the law's where the arguments, and the package variables that the reading takes, are together of bulk at most 1048576: NARROWER than '..Said'. Prove '..Said' where nothing that the law and all that it calls make is longer than what came in: it says more and counts as full. Else prove '..UptoSaid'. A law counts once. -/
mutual
def uptoBulk {H : Type} : DataW H → Nat
  | .lit (.string bytes) => bytes.length + 1
  | .lit _ => 1
  | .nil => 1
  | .ptr d => uptoBulk d + 1
  | .slice elems spare => uptoBulkAll elems + uptoBulkAll spare + 1
  | .agg parts => uptoBulkAll parts + 1
  | .iface _ d => uptoBulk d + 1
  | .map entries => uptoBulkEntries entries + 1
  | .held _ => 1
def uptoBulkAll {H : Type} : List (DataW H) → Nat
  | [] => 0
  | d :: r => uptoBulk d + uptoBulkAll r
def uptoBulkEntries {H : Type} : List (Lit × DataW H) → Nat
  | [] => 0
  | x :: r => uptoBulkEntry x + uptoBulkEntries r
def uptoBulkEntry {H : Type} : Lit × DataW H → Nat
  | (.string bytes, d) => bytes.length + uptoBulk d + 1
  | (_, d) => uptoBulk d + 1
 end
def uptoSmall : (H : Type) → List (DataW H) → Bool := fun _ ds => decide (uptoBulkAll ds ≤ 1048576)
def OpenSpec.upto (s : _root_.Go.ChangeSpec) : _root_.Go.OpenSpec := { _root_.Go.OpenSpec.ofChange s with cond := some uptoSmall }

/-- 'laws.FnMatrix', WHERE WHAT IT READS IS OF BULK AT MOST 1048576: true; the input reads as it did. -/
def fnMatrixUptoRow : OpenClaim := { program := "ytcfnlfldknadlaa", sum := "650597ef6c78608cf63ccdb64537b4290c87e6d88ee3a5e4e9d15058d95d3c2c", func := "loop.example/levellingnet/laws.FnMatrix", spec := "fnMatrix", unfollowed := true, recurses := true, apart := false, narrowed := true }
def FnMatrixUptoSaid : Prop := fnMatrixUptoRow.holds Try.pinned (OpenSpec.upto fnMatrixSpec)

/-- 'laws.FnTrees', WHERE WHAT IT READS IS OF BULK AT MOST 1048576: true; the input reads as it did. -/
def fnTreesUptoRow : OpenClaim := { program := "ytcfnlfldknadlaa", sum := "650597ef6c78608cf63ccdb64537b4290c87e6d88ee3a5e4e9d15058d95d3c2c", func := "loop.example/levellingnet/laws.FnTrees", spec := "fnTrees", unfollowed := true, recurses := true, apart := false, narrowed := true }
def FnTreesUptoSaid : Prop := fnTreesUptoRow.holds Try.pinned (OpenSpec.upto fnTreesSpec)

/-- 'laws.FnTreesCut', WHERE WHAT IT READS IS OF BULK AT MOST 1048576: true; the input reads as it did. -/
def fnTreesCutUptoRow : OpenClaim := { program := "ytcfnlfldknadlaa", sum := "650597ef6c78608cf63ccdb64537b4290c87e6d88ee3a5e4e9d15058d95d3c2c", func := "loop.example/levellingnet/laws.FnTreesCut", spec := "fnTreesCut", unfollowed := true, recurses := true, apart := false, narrowed := true }
def FnTreesCutUptoSaid : Prop := fnTreesCutUptoRow.holds Try.pinned (OpenSpec.upto fnTreesCutSpec)

/-- 'laws.FnTreesMerge', WHERE WHAT IT READS IS OF BULK AT MOST 1048576: true; the input reads as it did. -/
def fnTreesMergeUptoRow : OpenClaim := { program := "ytcfnlfldknadlaa", sum := "650597ef6c78608cf63ccdb64537b4290c87e6d88ee3a5e4e9d15058d95d3c2c", func := "loop.example/levellingnet/laws.FnTreesMerge", spec := "fnTreesMerge", apart := false, narrowed := true }
def FnTreesMergeUptoSaid : Prop := fnTreesMergeUptoRow.holds Try.pinned (OpenSpec.upto fnTreesMergeSpec)

/-- 'laws.FnSource', WHERE WHAT IT READS IS OF BULK AT MOST 1048576: true; the input reads as it did. -/
def fnSourceUptoRow : OpenClaim := { program := "ytcfnlfldknadlaa", sum := "650597ef6c78608cf63ccdb64537b4290c87e6d88ee3a5e4e9d15058d95d3c2c", func := "loop.example/levellingnet/laws.FnSource", spec := "fnSource", unfollowed := true, recurses := true, apart := false, narrowed := true }
def FnSourceUptoSaid : Prop := fnSourceUptoRow.holds Try.pinned (OpenSpec.upto fnSourceSpec)

/-- 'laws.FnSourceBack', WHERE WHAT IT READS IS OF BULK AT MOST 1048576: true; the input reads as it did. -/
def fnSourceBackUptoRow : OpenClaim := { program := "ytcfnlfldknadlaa", sum := "650597ef6c78608cf63ccdb64537b4290c87e6d88ee3a5e4e9d15058d95d3c2c", func := "loop.example/levellingnet/laws.FnSourceBack", spec := "fnSourceBack", apart := false, narrowed := true }
def FnSourceBackUptoSaid : Prop := fnSourceBackUptoRow.holds Try.pinned (OpenSpec.upto fnSourceBackSpec)

/-- 'laws.FnExactNetMatrix', WHERE WHAT IT READS IS OF BULK AT MOST 1048576: true; the input reads as it did. -/
def fnExactNetMatrixUptoRow : OpenClaim := { program := "ytcfnlfldknadlaa", sum := "650597ef6c78608cf63ccdb64537b4290c87e6d88ee3a5e4e9d15058d95d3c2c", func := "loop.example/levellingnet/laws.FnExactNetMatrix", spec := "fnExactNetMatrix", unfollowed := true, recurses := true, apart := false, narrowed := true }
def FnExactNetMatrixUptoSaid : Prop := fnExactNetMatrixUptoRow.holds Try.pinned (OpenSpec.upto fnExactNetMatrixSpec)

/-- 'laws.FnExactNetTrees', WHERE WHAT IT READS IS OF BULK AT MOST 1048576: true; the input reads as it did. -/
def fnExactNetTreesUptoRow : OpenClaim := { program := "ytcfnlfldknadlaa", sum := "650597ef6c78608cf63ccdb64537b4290c87e6d88ee3a5e4e9d15058d95d3c2c", func := "loop.example/levellingnet/laws.FnExactNetTrees", spec := "fnExactNetTrees", unfollowed := true, recurses := true, apart := false, narrowed := true }
def FnExactNetTreesUptoSaid : Prop := fnExactNetTreesUptoRow.holds Try.pinned (OpenSpec.upto fnExactNetTreesSpec)

/-- 'laws.FnExactNetSource', WHERE WHAT IT READS IS OF BULK AT MOST 1048576: true; the input reads as it did. -/
def fnExactNetSourceUptoRow : OpenClaim := { program := "ytcfnlfldknadlaa", sum := "650597ef6c78608cf63ccdb64537b4290c87e6d88ee3a5e4e9d15058d95d3c2c", func := "loop.example/levellingnet/laws.FnExactNetSource", spec := "fnExactNetSource", apart := false, narrowed := true }
def FnExactNetSourceUptoSaid : Prop := fnExactNetSourceUptoRow.holds Try.pinned (OpenSpec.upto fnExactNetSourceSpec)

/-- 'laws.FnExactNetWithout', WHERE WHAT IT READS IS OF BULK AT MOST 1048576: true; the input reads as it did. -/
def fnExactNetWithoutUptoRow : OpenClaim := { program := "ytcfnlfldknadlaa", sum := "650597ef6c78608cf63ccdb64537b4290c87e6d88ee3a5e4e9d15058d95d3c2c", func := "loop.example/levellingnet/laws.FnExactNetWithout", spec := "fnExactNetWithout", apart := false, narrowed := true }
def FnExactNetWithoutUptoSaid : Prop := fnExactNetWithoutUptoRow.holds Try.pinned (OpenSpec.upto fnExactNetWithoutSpec)

/-- 'laws.FnExactNetMerge', WHERE WHAT IT READS IS OF BULK AT MOST 1048576: true; the input reads as it did. -/
def fnExactNetMergeUptoRow : OpenClaim := { program := "ytcfnlfldknadlaa", sum := "650597ef6c78608cf63ccdb64537b4290c87e6d88ee3a5e4e9d15058d95d3c2c", func := "loop.example/levellingnet/laws.FnExactNetMerge", spec := "fnExactNetMerge", apart := false, narrowed := true }
def FnExactNetMergeUptoSaid : Prop := fnExactNetMergeUptoRow.holds Try.pinned (OpenSpec.upto fnExactNetMergeSpec)

end Rows
end Go.Proofs.Ytcfnlfldknadlaa
