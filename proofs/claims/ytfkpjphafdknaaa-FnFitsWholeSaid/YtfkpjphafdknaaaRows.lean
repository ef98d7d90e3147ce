/-
  No cell of these rows narrows 'for every input' (looked for: loops, veiled, ifaces, maps, wideKeys, modest, calm, conditions, laid).
  DERIVED. THE GIVEN ROWS OF THIS SEAT. 11 by the template 'for every input the law returns true; each argument reads behind the call as it read before'; 0 by the template 'total and deterministic' (their statements: YtfkpjphafdknaaaTotals.lean).
  GIVEN WITH THE SEED: the statements are not yours to turn. If you find one false, say at which input.
  Laid BY PROGRAM, IN A SANDBOX (cutbox-rows.mjs): the forced cells as the released guide's own fill.sh prints them over the translation 18983df27fecb738… (all of the seat's roots in one cut). By AI agents, Wed Nov 11 2026. No macro, syntax, notation, axiom, sorry.
-/
import Derived.Test.YtfkpjphafdknaaaChecked
import GoSem.Claim
import GoSem.ClaimJoined
import GoSem.ClaimMapViews
import Derived.JoinedTies
import Derived.KernelRfl
namespace Go.Proofs.Ytfkpjphafdknaaa
/- THE CELL 'sum', in the pinned program and in every row, IS THE sha256 OF THE DUMP (.gsa) THAT YtfkpjphafdknaaaProg.lean LOADS. Nothing in Lean hashes anything: it is a label: what it is worth is what the hold of that sum in a sandbox is worth. -/
noncomputable def Try.pinned : Pinned := { name := "ytfkpjphafdknaaa", sum := "18983df27fecb7388d87de54785b993e4707b8a8998bcfa9bfe277def0cfde67", checked := Try.checked }
namespace Rows
def none {H : Type} : Left H := { results := [], args := [] }

/-- 'laws.FnLinked': WHATEVER THE INPUT: true; the input reads as it did. -/
def fnLinkedSpec : ChangeSpec := { name := "fnLinked", fn := fun _ => fun
  | [d] => { results := [.lit (.bool true)], args := [d] }
  | _ => none }
def fnLinkedRow : OpenClaim := { program := "ytfkpjphafdknaaa", sum := "18983df27fecb7388d87de54785b993e4707b8a8998bcfa9bfe277def0cfde67", func := "loop.example/levellingnet/laws.FnLinked", spec := "fnLinked", apart := false }
def FnLinkedSaid : Prop := fnLinkedRow.holds Try.pinned (OpenSpec.ofChange fnLinkedSpec)

/-- ITS FALSE NEIGHBOUR: 'it returns false'. Refute it at one input. -/
def fnLinkedWrong : ChangeSpec := { name := "fnLinked", fn := fun _ => fun
  | [d] => { results := [.lit (.bool false)], args := [d] }
  | _ => none }
def FnLinkedWrongFalsely : Prop := fnLinkedRow.holds Try.pinned (OpenSpec.ofChange fnLinkedWrong)

/-- 'laws.FnLoopsRun': WHATEVER THE INPUT: true; the input reads as it did. -/
def fnLoopsRunSpec : ChangeSpec := { name := "fnLoopsRun", fn := fun _ => fun
  | [d] => { results := [.lit (.bool true)], args := [d] }
  | _ => none }
def fnLoopsRunRow : OpenClaim := { program := "ytfkpjphafdknaaa", sum := "18983df27fecb7388d87de54785b993e4707b8a8998bcfa9bfe277def0cfde67", func := "loop.example/levellingnet/laws.FnLoopsRun", spec := "fnLoopsRun", apart := false }
def FnLoopsRunSaid : Prop := fnLoopsRunRow.holds Try.pinned (OpenSpec.ofChange fnLoopsRunSpec)

/-- ITS FALSE NEIGHBOUR: 'it returns false'. Refute it at one input. -/
def fnLoopsRunWrong : ChangeSpec := { name := "fnLoopsRun", fn := fun _ => fun
  | [d] => { results := [.lit (.bool false)], args := [d] }
  | _ => none }
def FnLoopsRunWrongFalsely : Prop := fnLoopsRunRow.holds Try.pinned (OpenSpec.ofChange fnLoopsRunWrong)

/-- 'laws.FnNetBack': WHATEVER THE INPUT: true; the input reads as it did. -/
def fnNetBackSpec : ChangeSpec := { name := "fnNetBack", fn := fun _ => fun
  | [d1, d2] => { results := [.lit (.bool true)], args := [d1, d2] }
  | _ => none }
def fnNetBackRow : OpenClaim := { program := "ytfkpjphafdknaaa", sum := "18983df27fecb7388d87de54785b993e4707b8a8998bcfa9bfe277def0cfde67", func := "loop.example/levellingnet/laws.FnNetBack", spec := "fnNetBack", apart := false }
def FnNetBackSaid : Prop := fnNetBackRow.holds Try.pinned (OpenSpec.ofChange fnNetBackSpec)

/-- ITS FALSE NEIGHBOUR: 'it returns false'. Refute it at one input. -/
def fnNetBackWrong : ChangeSpec := { name := "fnNetBack", fn := fun _ => fun
  | [d1, d2] => { results := [.lit (.bool false)], args := [d1, d2] }
  | _ => none }
def FnNetBackWrongFalsely : Prop := fnNetBackRow.holds Try.pinned (OpenSpec.ofChange fnNetBackWrong)

/-- 'laws.FnFits': WHATEVER THE INPUT: true; the input reads as it did. -/
def fnFitsSpec : ChangeSpec := { name := "fnFits", fn := fun _ => fun
  | [d1, d2] => { results := [.lit (.bool true)], args := [d1, d2] }
  | _ => none }
def fnFitsRow : OpenClaim := { program := "ytfkpjphafdknaaa", sum := "18983df27fecb7388d87de54785b993e4707b8a8998bcfa9bfe277def0cfde67", func := "loop.example/levellingnet/laws.FnFits", spec := "fnFits", apart := false }
def FnFitsSaid : Prop := fnFitsRow.holds Try.pinned (OpenSpec.ofChange fnFitsSpec)

/-- ITS FALSE NEIGHBOUR: 'it returns false'. Refute it at one input. -/
def fnFitsWrong : ChangeSpec := { name := "fnFits", fn := fun _ => fun
  | [d1, d2] => { results := [.lit (.bool false)], args := [d1, d2] }
  | _ => none }
def FnFitsWrongFalsely : Prop := fnFitsRow.holds Try.pinned (OpenSpec.ofChange fnFitsWrong)

/-- 'laws.FnFitsWhole': WHATEVER THE INPUT: true; the input reads as it did. -/
def fnFitsWholeSpec : ChangeSpec := { name := "fnFitsWhole", fn := fun _ => fun
  | [d1, d2] => { results := [.lit (.bool true)], args := [d1, d2] }
  | _ => none }
def fnFitsWholeRow : OpenClaim := { program := "ytfkpjphafdknaaa", sum := "18983df27fecb7388d87de54785b993e4707b8a8998bcfa9bfe277def0cfde67", func := "loop.example/levellingnet/laws.FnFitsWhole", spec := "fnFitsWhole", apart := false }
def FnFitsWholeSaid : Prop := fnFitsWholeRow.holds Try.pinned (OpenSpec.ofChange fnFitsWholeSpec)

/-- ITS FALSE NEIGHBOUR: 'it returns false'. Refute it at one input. -/
def fnFitsWholeWrong : ChangeSpec := { name := "fnFitsWhole", fn := fun _ => fun
  | [d1, d2] => { results := [.lit (.bool false)], args := [d1, d2] }
  | _ => none }
def FnFitsWholeWrongFalsely : Prop := fnFitsWholeRow.holds Try.pinned (OpenSpec.ofChange fnFitsWholeWrong)

/-- 'laws.FnExactNetValid': WHATEVER THE INPUT: true; the input reads as it did. -/
def fnExactNetValidSpec : ChangeSpec := { name := "fnExactNetValid", fn := fun _ => fun
  | [d1, d2] => { results := [.lit (.bool true)], args := [d1, d2] }
  | _ => none }
def fnExactNetValidRow : OpenClaim := { program := "ytfkpjphafdknaaa", sum := "18983df27fecb7388d87de54785b993e4707b8a8998bcfa9bfe277def0cfde67", func := "loop.example/levellingnet/laws.FnExactNetValid", spec := "fnExactNetValid", apart := false }
def FnExactNetValidSaid : Prop := fnExactNetValidRow.holds Try.pinned (OpenSpec.ofChange fnExactNetValidSpec)

/-- ITS FALSE NEIGHBOUR: 'it returns false'. Refute it at one input. -/
def fnExactNetValidWrong : ChangeSpec := { name := "fnExactNetValid", fn := fun _ => fun
  | [d1, d2] => { results := [.lit (.bool false)], args := [d1, d2] }
  | _ => none }
def FnExactNetValidWrongFalsely : Prop := fnExactNetValidRow.holds Try.pinned (OpenSpec.ofChange fnExactNetValidWrong)

/-- 'laws.FnExactNetLinked': WHATEVER THE INPUT: true; the input reads as it did. -/
def fnExactNetLinkedSpec : ChangeSpec := { name := "fnExactNetLinked", fn := fun _ => fun
  | [d1, d2] => { results := [.lit (.bool true)], args := [d1, d2] }
  | _ => none }
def fnExactNetLinkedRow : OpenClaim := { program := "ytfkpjphafdknaaa", sum := "18983df27fecb7388d87de54785b993e4707b8a8998bcfa9bfe277def0cfde67", func := "loop.example/levellingnet/laws.FnExactNetLinked", spec := "fnExactNetLinked", apart := false }
def FnExactNetLinkedSaid : Prop := fnExactNetLinkedRow.holds Try.pinned (OpenSpec.ofChange fnExactNetLinkedSpec)

/-- ITS FALSE NEIGHBOUR: 'it returns false'. Refute it at one input. -/
def fnExactNetLinkedWrong : ChangeSpec := { name := "fnExactNetLinked", fn := fun _ => fun
  | [d1, d2] => { results := [.lit (.bool false)], args := [d1, d2] }
  | _ => none }
def FnExactNetLinkedWrongFalsely : Prop := fnExactNetLinkedRow.holds Try.pinned (OpenSpec.ofChange fnExactNetLinkedWrong)

/-- 'laws.FnExactNetWhole': WHATEVER THE INPUT: true; the input reads as it did. -/
def fnExactNetWholeSpec : ChangeSpec := { name := "fnExactNetWhole", fn := fun _ => fun
  | [d1, d2] => { results := [.lit (.bool true)], args := [d1, d2] }
  | _ => none }
def fnExactNetWholeRow : OpenClaim := { program := "ytfkpjphafdknaaa", sum := "18983df27fecb7388d87de54785b993e4707b8a8998bcfa9bfe277def0cfde67", func := "loop.example/levellingnet/laws.FnExactNetWhole", spec := "fnExactNetWhole", apart := false }
def FnExactNetWholeSaid : Prop := fnExactNetWholeRow.holds Try.pinned (OpenSpec.ofChange fnExactNetWholeSpec)

/-- ITS FALSE NEIGHBOUR: 'it returns false'. Refute it at one input. -/
def fnExactNetWholeWrong : ChangeSpec := { name := "fnExactNetWhole", fn := fun _ => fun
  | [d1, d2] => { results := [.lit (.bool false)], args := [d1, d2] }
  | _ => none }
def FnExactNetWholeWrongFalsely : Prop := fnExactNetWholeRow.holds Try.pinned (OpenSpec.ofChange fnExactNetWholeWrong)

/-- 'laws.FnExactNetLoops': WHATEVER THE INPUT: true; the input reads as it did. -/
def fnExactNetLoopsSpec : ChangeSpec := { name := "fnExactNetLoops", fn := fun _ => fun
  | [d1, d2] => { results := [.lit (.bool true)], args := [d1, d2] }
  | _ => none }
def fnExactNetLoopsRow : OpenClaim := { program := "ytfkpjphafdknaaa", sum := "18983df27fecb7388d87de54785b993e4707b8a8998bcfa9bfe277def0cfde67", func := "loop.example/levellingnet/laws.FnExactNetLoops", spec := "fnExactNetLoops", apart := false }
def FnExactNetLoopsSaid : Prop := fnExactNetLoopsRow.holds Try.pinned (OpenSpec.ofChange fnExactNetLoopsSpec)

/-- ITS FALSE NEIGHBOUR: 'it returns false'. Refute it at one input. -/
def fnExactNetLoopsWrong : ChangeSpec := { name := "fnExactNetLoops", fn := fun _ => fun
  | [d1, d2] => { results := [.lit (.bool false)], args := [d1, d2] }
  | _ => none }
def FnExactNetLoopsWrongFalsely : Prop := fnExactNetLoopsRow.holds Try.pinned (OpenSpec.ofChange fnExactNetLoopsWrong)

/-- 'laws.FnExactNetBack': WHATEVER THE INPUT: true; the input reads as it did. -/
def fnExactNetBackSpec : ChangeSpec := { name := "fnExactNetBack", fn := fun _ => fun
  | [d1, d2, d3] => { results := [.lit (.bool true)], args := [d1, d2, d3] }
  | _ => none }
def fnExactNetBackRow : OpenClaim := { program := "ytfkpjphafdknaaa", sum := "18983df27fecb7388d87de54785b993e4707b8a8998bcfa9bfe277def0cfde67", func := "loop.example/levellingnet/laws.FnExactNetBack", spec := "fnExactNetBack", apart := false }
def FnExactNetBackSaid : Prop := fnExactNetBackRow.holds Try.pinned (OpenSpec.ofChange fnExactNetBackSpec)

/-- ITS FALSE NEIGHBOUR: 'it returns false'. Refute it at one input. -/
def fnExactNetBackWrong : ChangeSpec := { name := "fnExactNetBack", fn := fun _ => fun
  | [d1, d2, d3] => { results := [.lit (.bool false)], args := [d1, d2, d3] }
  | _ => none }
def FnExactNetBackWrongFalsely : Prop := fnExactNetBackRow.holds Try.pinned (OpenSpec.ofChange fnExactNetBackWrong)

/-- 'laws.FnExactNetFits': WHATEVER THE INPUT: true; the input reads as it did. -/
def fnExactNetFitsSpec : ChangeSpec := { name := "fnExactNetFits", fn := fun _ => fun
  | [d1, d2, d3] => { results := [.lit (.bool true)], args := [d1, d2, d3] }
  | _ => none }
def fnExactNetFitsRow : OpenClaim := { program := "ytfkpjphafdknaaa", sum := "18983df27fecb7388d87de54785b993e4707b8a8998bcfa9bfe277def0cfde67", func := "loop.example/levellingnet/laws.FnExactNetFits", spec := "fnExactNetFits", apart := false }
def FnExactNetFitsSaid : Prop := fnExactNetFitsRow.holds Try.pinned (OpenSpec.ofChange fnExactNetFitsSpec)

/-- ITS FALSE NEIGHBOUR: 'it returns false'. Refute it at one input. -/
def fnExactNetFitsWrong : ChangeSpec := { name := "fnExactNetFits", fn := fun _ => fun
  | [d1, d2, d3] => { results := [.lit (.bool false)], args := [d1, d2, d3] }
  | _ => none }
def FnExactNetFitsWrongFalsely : Prop := fnExactNetFitsRow.holds Try.pinned (OpenSpec.ofChange fnExactNetFitsWrong)

/- THE SECOND FORM. 'bulk': how many values and letters a reading holds, each counted each time it is reached (what is shared counts as often as it is met; a slice's spare places count too). A statement '..UptoSaid' is the law's where the arguments, and the package variables that the reading takes, are together of bulk at most 1048576: NARROWER than '..Said'. Prove '..Said' where nothing that the law and all that it calls make is longer than what came in: it says more and counts as full. Else prove '..UptoSaid'. A law counts once. -/
mutual
def uptoBulk {H : Type} : DataW H → Nat
  | .lit (.string bytes) => bytes.length + 1
  | .lit _ => 1
  | .nil => 1
  | .ptr d => uptoBulk d + 1
  | .slice elems spare => uptoBulkAll elems + uptoBulkAll spare + 1
  | .agg parts => uptoBulkAll parts + 1
  | .iface _ d => uptoBulk d + 1
  | .map entries => uptoBulkEntries entries + 1
  | .held _ => 1
def uptoBulkAll {H : Type} : List (DataW H) → Nat
  | [] => 0
  | d :: r => uptoBulk d + uptoBulkAll r
def uptoBulkEntries {H : Type} : List (Lit × DataW H) → Nat
  | [] => 0
  | x :: r => uptoBulkEntry x + uptoBulkEntries r
def uptoBulkEntry {H : Type} : Lit × DataW H → Nat
  | (.string bytes, d) => bytes.length + uptoBulk d + 1
  | (_, d) => uptoBulk d + 1
 end
def uptoSmall : (H : Type) → List (DataW H) → Bool := fun _ ds => decide (uptoBulkAll ds ≤ 1048576)
def OpenSpec.upto (s : _root_.Go.ChangeSpec) : _root_.Go.OpenSpec := { _root_.Go.OpenSpec.ofChange s with cond := some uptoSmall }

/-- 'laws.FnLinked', WHERE WHAT IT READS IS OF BULK AT MOST 1048576: true; the input reads as it did. -/
def fnLinkedUptoRow : OpenClaim := { program := "ytfkpjphafdknaaa", sum := "18983df27fecb7388d87de54785b993e4707b8a8998bcfa9bfe277def0cfde67", func := "loop.example/levellingnet/laws.FnLinked", spec := "fnLinked", apart := false, narrowed := true }
def FnLinkedUptoSaid : Prop := fnLinkedUptoRow.holds Try.pinned (OpenSpec.upto fnLinkedSpec)

/-- 'laws.FnLoopsRun', WHERE WHAT IT READS IS OF BULK AT MOST 1048576: true; the input reads as it did. -/
def fnLoopsRunUptoRow : OpenClaim := { program := "ytfkpjphafdknaaa", sum := "18983df27fecb7388d87de54785b993e4707b8a8998bcfa9bfe277def0cfde67", func := "loop.example/levellingnet/laws.FnLoopsRun", spec := "fnLoopsRun", apart := false, narrowed := true }
def FnLoopsRunUptoSaid : Prop := fnLoopsRunUptoRow.holds Try.pinned (OpenSpec.upto fnLoopsRunSpec)

/-- 'laws.FnNetBack', WHERE WHAT IT READS IS OF BULK AT MOST 1048576: true; the input reads as it did. -/
def fnNetBackUptoRow : OpenClaim := { program := "ytfkpjphafdknaaa", sum := "18983df27fecb7388d87de54785b993e4707b8a8998bcfa9bfe277def0cfde67", func := "loop.example/levellingnet/laws.FnNetBack", spec := "fnNetBack", apart := false, narrowed := true }
def FnNetBackUptoSaid : Prop := fnNetBackUptoRow.holds Try.pinned (OpenSpec.upto fnNetBackSpec)

/-- 'laws.FnFits', WHERE WHAT IT READS IS OF BULK AT MOST 1048576: true; the input reads as it did. -/
def fnFitsUptoRow : OpenClaim := { program := "ytfkpjphafdknaaa", sum := "18983df27fecb7388d87de54785b993e4707b8a8998bcfa9bfe277def0cfde67", func := "loop.example/levellingnet/laws.FnFits", spec := "fnFits", apart := false, narrowed := true }
def FnFitsUptoSaid : Prop := fnFitsUptoRow.holds Try.pinned (OpenSpec.upto fnFitsSpec)

/-- 'laws.FnFitsWhole', WHERE WHAT IT READS IS OF BULK AT MOST 1048576: true; the input reads as it did. -/
def fnFitsWholeUptoRow : OpenClaim := { program := "ytfkpjphafdknaaa", sum := "18983df27fecb7388d87de54785b993e4707b8a8998bcfa9bfe277def0cfde67", func := "loop.example/levellingnet/laws.FnFitsWhole", spec := "fnFitsWhole", apart := false, narrowed := true }
def FnFitsWholeUptoSaid : Prop := fnFitsWholeUptoRow.holds Try.pinned (OpenSpec.upto fnFitsWholeSpec)

/-- 'laws.FnExactNetValid', WHERE WHAT IT READS IS OF BULK AT MOST 1048576: true; the input reads as it did. -/
def fnExactNetValidUptoRow : OpenClaim := { program := "ytfkpjphafdknaaa", sum := "18983df27fecb7388d87de54785b993e4707b8a8998bcfa9bfe277def0cfde67", func := "loop.example/levellingnet/laws.FnExactNetValid", spec := "fnExactNetValid", apart := false, narrowed := true }
def FnExactNetValidUptoSaid : Prop := fnExactNetValidUptoRow.holds Try.pinned (OpenSpec.upto fnExactNetValidSpec)

/-- 'laws.FnExactNetLinked', WHERE WHAT IT READS IS OF BULK AT MOST 1048576: true; the input reads as it did. -/
def fnExactNetLinkedUptoRow : OpenClaim := { program := "ytfkpjphafdknaaa", sum := "18983df27fecb7388d87de54785b993e4707b8a8998bcfa9bfe277def0cfde67", func := "loop.example/levellingnet/laws.FnExactNetLinked", spec := "fnExactNetLinked", apart := false, narrowed := true }
def FnExactNetLinkedUptoSaid : Prop := fnExactNetLinkedUptoRow.holds Try.pinned (OpenSpec.upto fnExactNetLinkedSpec)

/-- 'laws.FnExactNetWhole', WHERE WHAT IT READS IS OF BULK AT MOST 1048576: true; the input reads as it did. -/
def fnExactNetWholeUptoRow : OpenClaim := { program := "ytfkpjphafdknaaa", sum := "18983df27fecb7388d87de54785b993e4707b8a8998bcfa9bfe277def0cfde67", func := "loop.example/levellingnet/laws.FnExactNetWhole", spec := "fnExactNetWhole", apart := false, narrowed := true }
def FnExactNetWholeUptoSaid : Prop := fnExactNetWholeUptoRow.holds Try.pinned (OpenSpec.upto fnExactNetWholeSpec)

/-- 'laws.FnExactNetLoops', WHERE WHAT IT READS IS OF BULK AT MOST 1048576: true; the input reads as it did. -/
def fnExactNetLoopsUptoRow : OpenClaim := { program := "ytfkpjphafdknaaa", sum := "18983df27fecb7388d87de54785b993e4707b8a8998bcfa9bfe277def0cfde67", func := "loop.example/levellingnet/laws.FnExactNetLoops", spec := "fnExactNetLoops", apart := false, narrowed := true }
def FnExactNetLoopsUptoSaid : Prop := fnExactNetLoopsUptoRow.holds Try.pinned (OpenSpec.upto fnExactNetLoopsSpec)

/-- 'laws.FnExactNetBack', WHERE WHAT IT READS IS OF BULK AT MOST 1048576: true; the input reads as it did. -/
def fnExactNetBackUptoRow : OpenClaim := { program := "ytfkpjphafdknaaa", sum := "18983df27fecb7388d87de54785b993e4707b8a8998bcfa9bfe277def0cfde67", func := "loop.example/levellingnet/laws.FnExactNetBack", spec := "fnExactNetBack", apart := false, narrowed := true }
def FnExactNetBackUptoSaid : Prop := fnExactNetBackUptoRow.holds Try.pinned (OpenSpec.upto fnExactNetBackSpec)

/-- 'laws.FnExactNetFits', WHERE WHAT IT READS IS OF BULK AT MOST 1048576: true; the input reads as it did. -/
def fnExactNetFitsUptoRow : OpenClaim := { program := "ytfkpjphafdknaaa", sum := "18983df27fecb7388d87de54785b993e4707b8a8998bcfa9bfe277def0cfde67", func := "loop.example/levellingnet/laws.FnExactNetFits", spec := "fnExactNetFits", apart := false, narrowed := true }
def FnExactNetFitsUptoSaid : Prop := fnExactNetFitsUptoRow.holds Try.pinned (OpenSpec.upto fnExactNetFitsSpec)

end Rows
end Go.Proofs.Ytfkpjphafdknaaa
