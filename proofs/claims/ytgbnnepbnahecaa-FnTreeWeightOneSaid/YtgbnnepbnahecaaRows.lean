/-
  No cell of these rows narrows 'for every input' (looked for: loops, veiled, ifaces, maps, wideKeys, modest, calm, conditions, laid).
  DERIVED. THE GIVEN ROWS OF THIS SEAT. 11 by the template 'for every input the law returns true; each argument reads behind the call as it read before'; 0 by the template 'total and deterministic' (their statements: YtgbnnepbnahecaaTotals.lean).
  GIVEN WITH THE SEED: the statements are not yours to turn. If you find one false, say at which input.
  Laid BY PROGRAM, IN A SANDBOX (cutbox-rows.mjs): the forced cells as the released guide's own fill.sh prints them over the translation 95cad3e25e4898e6… (all of the seat's roots in one cut). By AI agents, Wed Nov 11 2026. No macro, syntax, notation, axiom, sorry.
-/
import Derived.Test.YtgbnnepbnahecaaChecked
import GoSem.Claim
import GoSem.ClaimJoined
import GoSem.ClaimMapViews
import Derived.JoinedTies
import Derived.KernelRfl
namespace Go.Proofs.Ytgbnnepbnahecaa
/- THE CELL 'sum', in the pinned program and in every row, IS THE sha256 OF THE DUMP (.gsa) THAT YtgbnnepbnahecaaProg.lean LOADS. Nothing in Lean hashes anything: it is a label: what it is worth is what the hold of that sum in a sandbox is worth. -/
noncomputable def Try.pinned : Pinned := { name := "ytgbnnepbnahecaa", sum := "95cad3e25e4898e65c18d0b082dfbfb941b3b2b98ba18678c721eeb3e5db8b1d", checked := Try.checked }
namespace Rows
def none {H : Type} : Left H := { results := [], args := [] }

/-- 'laws.FnTree': WHATEVER THE INPUT: true; the input reads as it did. -/
def fnTreeSpec : ChangeSpec := { name := "fnTree", fn := fun _ => fun
  | [d1, d2] => { results := [.lit (.bool true)], args := [d1, d2] }
  | _ => none }
def fnTreeRow : OpenClaim := { program := "ytgbnnepbnahecaa", sum := "95cad3e25e4898e65c18d0b082dfbfb941b3b2b98ba18678c721eeb3e5db8b1d", func := "loop.example/levellingnet/laws.FnTree", spec := "fnTree", apart := false }
def FnTreeSaid : Prop := fnTreeRow.holds Try.pinned (OpenSpec.ofChange fnTreeSpec)

/-- ITS FALSE NEIGHBOUR: 'it returns false'. Refute it at one input. -/
def fnTreeWrong : ChangeSpec := { name := "fnTree", fn := fun _ => fun
  | [d1, d2] => { results := [.lit (.bool false)], args := [d1, d2] }
  | _ => none }
def FnTreeWrongFalsely : Prop := fnTreeRow.holds Try.pinned (OpenSpec.ofChange fnTreeWrong)

/-- 'laws.FnTreeFirst': WHATEVER THE INPUT: true; the input reads as it did. -/
def fnTreeFirstSpec : ChangeSpec := { name := "fnTreeFirst", fn := fun _ => fun
  | [d] => { results := [.lit (.bool true)], args := [d] }
  | _ => none }
def fnTreeFirstRow : OpenClaim := { program := "ytgbnnepbnahecaa", sum := "95cad3e25e4898e65c18d0b082dfbfb941b3b2b98ba18678c721eeb3e5db8b1d", func := "loop.example/levellingnet/laws.FnTreeFirst", spec := "fnTreeFirst", apart := false }
def FnTreeFirstSaid : Prop := fnTreeFirstRow.holds Try.pinned (OpenSpec.ofChange fnTreeFirstSpec)

/-- ITS FALSE NEIGHBOUR: 'it returns false'. Refute it at one input. -/
def fnTreeFirstWrong : ChangeSpec := { name := "fnTreeFirst", fn := fun _ => fun
  | [d] => { results := [.lit (.bool false)], args := [d] }
  | _ => none }
def FnTreeFirstWrongFalsely : Prop := fnTreeFirstRow.holds Try.pinned (OpenSpec.ofChange fnTreeFirstWrong)

/-- 'laws.FnTreeMany': WHATEVER THE INPUT: true; the input reads as it did. -/
def fnTreeManySpec : ChangeSpec := { name := "fnTreeMany", fn := fun _ => fun
  | [d] => { results := [.lit (.bool true)], args := [d] }
  | _ => none }
def fnTreeManyRow : OpenClaim := { program := "ytgbnnepbnahecaa", sum := "95cad3e25e4898e65c18d0b082dfbfb941b3b2b98ba18678c721eeb3e5db8b1d", func := "loop.example/levellingnet/laws.FnTreeMany", spec := "fnTreeMany", unfollowed := true, recurses := true, apart := false }
def FnTreeManySaid : Prop := fnTreeManyRow.holds Try.pinned (OpenSpec.ofChange fnTreeManySpec)

/-- ITS FALSE NEIGHBOUR: 'it returns false'. Refute it at one input. -/
def fnTreeManyWrong : ChangeSpec := { name := "fnTreeMany", fn := fun _ => fun
  | [d] => { results := [.lit (.bool false)], args := [d] }
  | _ => none }
def FnTreeManyWrongFalsely : Prop := fnTreeManyRow.holds Try.pinned (OpenSpec.ofChange fnTreeManyWrong)

/-- 'laws.FnTreeWeightOne': WHATEVER THE INPUT: true; the input reads as it did. -/
def fnTreeWeightOneSpec : ChangeSpec := { name := "fnTreeWeightOne", fn := fun _ => fun
  | [d] => { results := [.lit (.bool true)], args := [d] }
  | _ => none }
def fnTreeWeightOneRow : OpenClaim := { program := "ytgbnnepbnahecaa", sum := "95cad3e25e4898e65c18d0b082dfbfb941b3b2b98ba18678c721eeb3e5db8b1d", func := "loop.example/levellingnet/laws.FnTreeWeightOne", spec := "fnTreeWeightOne", unfollowed := true, recurses := true, apart := false }
def FnTreeWeightOneSaid : Prop := fnTreeWeightOneRow.holds Try.pinned (OpenSpec.ofChange fnTreeWeightOneSpec)

/-- ITS FALSE NEIGHBOUR: 'it returns false'. Refute it at one input. -/
def fnTreeWeightOneWrong : ChangeSpec := { name := "fnTreeWeightOne", fn := fun _ => fun
  | [d] => { results := [.lit (.bool false)], args := [d] }
  | _ => none }
def FnTreeWeightOneWrongFalsely : Prop := fnTreeWeightOneRow.holds Try.pinned (OpenSpec.ofChange fnTreeWeightOneWrong)

/-- 'laws.FnTreeHeights': WHATEVER THE INPUT: true; the input reads as it did. -/
def fnTreeHeightsSpec : ChangeSpec := { name := "fnTreeHeights", fn := fun _ => fun
  | [d1, d2] => { results := [.lit (.bool true)], args := [d1, d2] }
  | _ => none }
def fnTreeHeightsRow : OpenClaim := { program := "ytgbnnepbnahecaa", sum := "95cad3e25e4898e65c18d0b082dfbfb941b3b2b98ba18678c721eeb3e5db8b1d", func := "loop.example/levellingnet/laws.FnTreeHeights", spec := "fnTreeHeights", apart := false }
def FnTreeHeightsSaid : Prop := fnTreeHeightsRow.holds Try.pinned (OpenSpec.ofChange fnTreeHeightsSpec)

/-- ITS FALSE NEIGHBOUR: 'it returns false'. Refute it at one input. -/
def fnTreeHeightsWrong : ChangeSpec := { name := "fnTreeHeights", fn := fun _ => fun
  | [d1, d2] => { results := [.lit (.bool false)], args := [d1, d2] }
  | _ => none }
def FnTreeHeightsWrongFalsely : Prop := fnTreeHeightsRow.holds Try.pinned (OpenSpec.ofChange fnTreeHeightsWrong)

/-- 'laws.FnTreeExchange': WHATEVER THE INPUT: true; the input reads as it did. -/
def fnTreeExchangeSpec : ChangeSpec := { name := "fnTreeExchange", fn := fun _ => fun
  | [d] => { results := [.lit (.bool true)], args := [d] }
  | _ => none }
def fnTreeExchangeRow : OpenClaim := { program := "ytgbnnepbnahecaa", sum := "95cad3e25e4898e65c18d0b082dfbfb941b3b2b98ba18678c721eeb3e5db8b1d", func := "loop.example/levellingnet/laws.FnTreeExchange", spec := "fnTreeExchange", apart := false }
def FnTreeExchangeSaid : Prop := fnTreeExchangeRow.holds Try.pinned (OpenSpec.ofChange fnTreeExchangeSpec)

/-- ITS FALSE NEIGHBOUR: 'it returns false'. Refute it at one input. -/
def fnTreeExchangeWrong : ChangeSpec := { name := "fnTreeExchange", fn := fun _ => fun
  | [d] => { results := [.lit (.bool false)], args := [d] }
  | _ => none }
def FnTreeExchangeWrongFalsely : Prop := fnTreeExchangeRow.holds Try.pinned (OpenSpec.ofChange fnTreeExchangeWrong)

/-- 'laws.FnExactTreeIs': WHATEVER THE INPUT: true; the input reads as it did. -/
def fnExactTreeIsSpec : ChangeSpec := { name := "fnExactTreeIs", fn := fun _ => fun
  | [d1, d2, d3] => { results := [.lit (.bool true)], args := [d1, d2, d3] }
  | _ => none }
def fnExactTreeIsRow : OpenClaim := { program := "ytgbnnepbnahecaa", sum := "95cad3e25e4898e65c18d0b082dfbfb941b3b2b98ba18678c721eeb3e5db8b1d", func := "loop.example/levellingnet/laws.FnExactTreeIs", spec := "fnExactTreeIs", apart := false }
def FnExactTreeIsSaid : Prop := fnExactTreeIsRow.holds Try.pinned (OpenSpec.ofChange fnExactTreeIsSpec)

/-- ITS FALSE NEIGHBOUR: 'it returns false'. Refute it at one input. -/
def fnExactTreeIsWrong : ChangeSpec := { name := "fnExactTreeIs", fn := fun _ => fun
  | [d1, d2, d3] => { results := [.lit (.bool false)], args := [d1, d2, d3] }
  | _ => none }
def FnExactTreeIsWrongFalsely : Prop := fnExactTreeIsRow.holds Try.pinned (OpenSpec.ofChange fnExactTreeIsWrong)

/-- 'laws.FnExactTreeFirst': WHATEVER THE INPUT: true; the input reads as it did. -/
def fnExactTreeFirstSpec : ChangeSpec := { name := "fnExactTreeFirst", fn := fun _ => fun
  | [d1, d2] => { results := [.lit (.bool true)], args := [d1, d2] }
  | _ => none }
def fnExactTreeFirstRow : OpenClaim := { program := "ytgbnnepbnahecaa", sum := "95cad3e25e4898e65c18d0b082dfbfb941b3b2b98ba18678c721eeb3e5db8b1d", func := "loop.example/levellingnet/laws.FnExactTreeFirst", spec := "fnExactTreeFirst", apart := false }
def FnExactTreeFirstSaid : Prop := fnExactTreeFirstRow.holds Try.pinned (OpenSpec.ofChange fnExactTreeFirstSpec)

/-- ITS FALSE NEIGHBOUR: 'it returns false'. Refute it at one input. -/
def fnExactTreeFirstWrong : ChangeSpec := { name := "fnExactTreeFirst", fn := fun _ => fun
  | [d1, d2] => { results := [.lit (.bool false)], args := [d1, d2] }
  | _ => none }
def FnExactTreeFirstWrongFalsely : Prop := fnExactTreeFirstRow.holds Try.pinned (OpenSpec.ofChange fnExactTreeFirstWrong)

/-- 'laws.FnExactTreeMany': WHATEVER THE INPUT: true; the input reads as it did. -/
def fnExactTreeManySpec : ChangeSpec := { name := "fnExactTreeMany", fn := fun _ => fun
  | [d1, d2] => { results := [.lit (.bool true)], args := [d1, d2] }
  | _ => none }
def fnExactTreeManyRow : OpenClaim := { program := "ytgbnnepbnahecaa", sum := "95cad3e25e4898e65c18d0b082dfbfb941b3b2b98ba18678c721eeb3e5db8b1d", func := "loop.example/levellingnet/laws.FnExactTreeMany", spec := "fnExactTreeMany", unfollowed := true, recurses := true, apart := false }
def FnExactTreeManySaid : Prop := fnExactTreeManyRow.holds Try.pinned (OpenSpec.ofChange fnExactTreeManySpec)

/-- ITS FALSE NEIGHBOUR: 'it returns false'. Refute it at one input. -/
def fnExactTreeManyWrong : ChangeSpec := { name := "fnExactTreeMany", fn := fun _ => fun
  | [d1, d2] => { results := [.lit (.bool false)], args := [d1, d2] }
  | _ => none }
def FnExactTreeManyWrongFalsely : Prop := fnExactTreeManyRow.holds Try.pinned (OpenSpec.ofChange fnExactTreeManyWrong)

/-- 'laws.FnExactTreeWeight': WHATEVER THE INPUT: true; the input reads as it did. -/
def fnExactTreeWeightSpec : ChangeSpec := { name := "fnExactTreeWeight", fn := fun _ => fun
  | [d1, d2] => { results := [.lit (.bool true)], args := [d1, d2] }
  | _ => none }
def fnExactTreeWeightRow : OpenClaim := { program := "ytgbnnepbnahecaa", sum := "95cad3e25e4898e65c18d0b082dfbfb941b3b2b98ba18678c721eeb3e5db8b1d", func := "loop.example/levellingnet/laws.FnExactTreeWeight", spec := "fnExactTreeWeight", unfollowed := true, recurses := true, apart := false }
def FnExactTreeWeightSaid : Prop := fnExactTreeWeightRow.holds Try.pinned (OpenSpec.ofChange fnExactTreeWeightSpec)

/-- ITS FALSE NEIGHBOUR: 'it returns false'. Refute it at one input. -/
def fnExactTreeWeightWrong : ChangeSpec := { name := "fnExactTreeWeight", fn := fun _ => fun
  | [d1, d2] => { results := [.lit (.bool false)], args := [d1, d2] }
  | _ => none }
def FnExactTreeWeightWrongFalsely : Prop := fnExactTreeWeightRow.holds Try.pinned (OpenSpec.ofChange fnExactTreeWeightWrong)

/-- 'laws.FnExactTreeHeights': WHATEVER THE INPUT: true; the input reads as it did. -/
def fnExactTreeHeightsSpec : ChangeSpec := { name := "fnExactTreeHeights", fn := fun _ => fun
  | [d1, d2, d3] => { results := [.lit (.bool true)], args := [d1, d2, d3] }
  | _ => none }
def fnExactTreeHeightsRow : OpenClaim := { program := "ytgbnnepbnahecaa", sum := "95cad3e25e4898e65c18d0b082dfbfb941b3b2b98ba18678c721eeb3e5db8b1d", func := "loop.example/levellingnet/laws.FnExactTreeHeights", spec := "fnExactTreeHeights", apart := false }
def FnExactTreeHeightsSaid : Prop := fnExactTreeHeightsRow.holds Try.pinned (OpenSpec.ofChange fnExactTreeHeightsSpec)

/-- ITS FALSE NEIGHBOUR: 'it returns false'. Refute it at one input. -/
def fnExactTreeHeightsWrong : ChangeSpec := { name := "fnExactTreeHeights", fn := fun _ => fun
  | [d1, d2, d3] => { results := [.lit (.bool false)], args := [d1, d2, d3] }
  | _ => none }
def FnExactTreeHeightsWrongFalsely : Prop := fnExactTreeHeightsRow.holds Try.pinned (OpenSpec.ofChange fnExactTreeHeightsWrong)

/- THE SECOND FORM. 'bulk': how many values and letters a reading holds, each counted each time it is reached (what is shared counts as often as it is met; a slice's spare places count too). A statement '..UptoSaid' is the law's where the arguments, and the package variables that the reading takes, are together of bulk at most 1048576: NARROWER than '..Said'. Prove '..Said' where nothing that the law and all that it calls make is longer than what came in: it says more and counts as full. Else prove '..UptoSaid'. A law counts once. -/
mutual
def uptoBulk {H : Type} : DataW H → Nat
  | .lit (.string bytes) => bytes.length + 1
  | .lit _ => 1
  | .nil => 1
  | .ptr d => uptoBulk d + 1
  | .slice elems spare => uptoBulkAll elems + uptoBulkAll spare + 1
  | .agg parts => uptoBulkAll parts + 1
  | .iface _ d => uptoBulk d + 1
  | .map entries => uptoBulkEntries entries + 1
  | .held _ => 1
def uptoBulkAll {H : Type} : List (DataW H) → Nat
  | [] => 0
  | d :: r => uptoBulk d + uptoBulkAll r
def uptoBulkEntries {H : Type} : List (Lit × DataW H) → Nat
  | [] => 0
  | x :: r => uptoBulkEntry x + uptoBulkEntries r
def uptoBulkEntry {H : Type} : Lit × DataW H → Nat
  | (.string bytes, d) => bytes.length + uptoBulk d + 1
  | (_, d) => uptoBulk d + 1
 end
def uptoSmall : (H : Type) → List (DataW H) → Bool := fun _ ds => decide (uptoBulkAll ds ≤ 1048576)
def OpenSpec.upto (s : _root_.Go.ChangeSpec) : _root_.Go.OpenSpec := { _root_.Go.OpenSpec.ofChange s with cond := some uptoSmall }

/-- 'laws.FnTree', WHERE WHAT IT READS IS OF BULK AT MOST 1048576: true; the input reads as it did. -/
def fnTreeUptoRow : OpenClaim := { program := "ytgbnnepbnahecaa", sum := "95cad3e25e4898e65c18d0b082dfbfb941b3b2b98ba18678c721eeb3e5db8b1d", func := "loop.example/levellingnet/laws.FnTree", spec := "fnTree", apart := false, narrowed := true }
def FnTreeUptoSaid : Prop := fnTreeUptoRow.holds Try.pinned (OpenSpec.upto fnTreeSpec)

/-- 'laws.FnTreeFirst', WHERE WHAT IT READS IS OF BULK AT MOST 1048576: true; the input reads as it did. -/
def fnTreeFirstUptoRow : OpenClaim := { program := "ytgbnnepbnahecaa", sum := "95cad3e25e4898e65c18d0b082dfbfb941b3b2b98ba18678c721eeb3e5db8b1d", func := "loop.example/levellingnet/laws.FnTreeFirst", spec := "fnTreeFirst", apart := false, narrowed := true }
def FnTreeFirstUptoSaid : Prop := fnTreeFirstUptoRow.holds Try.pinned (OpenSpec.upto fnTreeFirstSpec)

/-- 'laws.FnTreeMany', WHERE WHAT IT READS IS OF BULK AT MOST 1048576: true; the input reads as it did. -/
def fnTreeManyUptoRow : OpenClaim := { program := "ytgbnnepbnahecaa", sum := "95cad3e25e4898e65c18d0b082dfbfb941b3b2b98ba18678c721eeb3e5db8b1d", func := "loop.example/levellingnet/laws.FnTreeMany", spec := "fnTreeMany", unfollowed := true, recurses := true, apart := false, narrowed := true }
def FnTreeManyUptoSaid : Prop := fnTreeManyUptoRow.holds Try.pinned (OpenSpec.upto fnTreeManySpec)

/-- 'laws.FnTreeWeightOne', WHERE WHAT IT READS IS OF BULK AT MOST 1048576: true; the input reads as it did. -/
def fnTreeWeightOneUptoRow : OpenClaim := { program := "ytgbnnepbnahecaa", sum := "95cad3e25e4898e65c18d0b082dfbfb941b3b2b98ba18678c721eeb3e5db8b1d", func := "loop.example/levellingnet/laws.FnTreeWeightOne", spec := "fnTreeWeightOne", unfollowed := true, recurses := true, apart := false, narrowed := true }
def FnTreeWeightOneUptoSaid : Prop := fnTreeWeightOneUptoRow.holds Try.pinned (OpenSpec.upto fnTreeWeightOneSpec)

/-- 'laws.FnTreeHeights', WHERE WHAT IT READS IS OF BULK AT MOST 1048576: true; the input reads as it did. -/
def fnTreeHeightsUptoRow : OpenClaim := { program := "ytgbnnepbnahecaa", sum := "95cad3e25e4898e65c18d0b082dfbfb941b3b2b98ba18678c721eeb3e5db8b1d", func := "loop.example/levellingnet/laws.FnTreeHeights", spec := "fnTreeHeights", apart := false, narrowed := true }
def FnTreeHeightsUptoSaid : Prop := fnTreeHeightsUptoRow.holds Try.pinned (OpenSpec.upto fnTreeHeightsSpec)

/-- 'laws.FnTreeExchange', WHERE WHAT IT READS IS OF BULK AT MOST 1048576: true; the input reads as it did. -/
def fnTreeExchangeUptoRow : OpenClaim := { program := "ytgbnnepbnahecaa", sum := "95cad3e25e4898e65c18d0b082dfbfb941b3b2b98ba18678c721eeb3e5db8b1d", func := "loop.example/levellingnet/laws.FnTreeExchange", spec := "fnTreeExchange", apart := false, narrowed := true }
def FnTreeExchangeUptoSaid : Prop := fnTreeExchangeUptoRow.holds Try.pinned (OpenSpec.upto fnTreeExchangeSpec)

/-- 'laws.FnExactTreeIs', WHERE WHAT IT READS IS OF BULK AT MOST 1048576: true; the input reads as it did. -/
def fnExactTreeIsUptoRow : OpenClaim := { program := "ytgbnnepbnahecaa", sum := "95cad3e25e4898e65c18d0b082dfbfb941b3b2b98ba18678c721eeb3e5db8b1d", func := "loop.example/levellingnet/laws.FnExactTreeIs", spec := "fnExactTreeIs", apart := false, narrowed := true }
def FnExactTreeIsUptoSaid : Prop := fnExactTreeIsUptoRow.holds Try.pinned (OpenSpec.upto fnExactTreeIsSpec)

/-- 'laws.FnExactTreeFirst', WHERE WHAT IT READS IS OF BULK AT MOST 1048576: true; the input reads as it did. -/
def fnExactTreeFirstUptoRow : OpenClaim := { program := "ytgbnnepbnahecaa", sum := "95cad3e25e4898e65c18d0b082dfbfb941b3b2b98ba18678c721eeb3e5db8b1d", func := "loop.example/levellingnet/laws.FnExactTreeFirst", spec := "fnExactTreeFirst", apart := false, narrowed := true }
def FnExactTreeFirstUptoSaid : Prop := fnExactTreeFirstUptoRow.holds Try.pinned (OpenSpec.upto fnExactTreeFirstSpec)

/-- 'laws.FnExactTreeMany', WHERE WHAT IT READS IS OF BULK AT MOST 1048576: true; the input reads as it did. -/
def fnExactTreeManyUptoRow : OpenClaim := { program := "ytgbnnepbnahecaa", sum := "95cad3e25e4898e65c18d0b082dfbfb941b3b2b98ba18678c721eeb3e5db8b1d", func := "loop.example/levellingnet/laws.FnExactTreeMany", spec := "fnExactTreeMany", unfollowed := true, recurses := true, apart := false, narrowed := true }
def FnExactTreeManyUptoSaid : Prop := fnExactTreeManyUptoRow.holds Try.pinned (OpenSpec.upto fnExactTreeManySpec)

/-- 'laws.FnExactTreeWeight', WHERE WHAT IT READS IS OF BULK AT MOST 1048576: true; the input reads as it did. -/
def fnExactTreeWeightUptoRow : OpenClaim := { program := "ytgbnnepbnahecaa", sum := "95cad3e25e4898e65c18d0b082dfbfb941b3b2b98ba18678c721eeb3e5db8b1d", func := "loop.example/levellingnet/laws.FnExactTreeWeight", spec := "fnExactTreeWeight", unfollowed := true, recurses := true, apart := false, narrowed := true }
def FnExactTreeWeightUptoSaid : Prop := fnExactTreeWeightUptoRow.holds Try.pinned (OpenSpec.upto fnExactTreeWeightSpec)

/-- 'laws.FnExactTreeHeights', WHERE WHAT IT READS IS OF BULK AT MOST 1048576: true; the input reads as it did. -/
def fnExactTreeHeightsUptoRow : OpenClaim := { program := "ytgbnnepbnahecaa", sum := "95cad3e25e4898e65c18d0b082dfbfb941b3b2b98ba18678c721eeb3e5db8b1d", func := "loop.example/levellingnet/laws.FnExactTreeHeights", spec := "fnExactTreeHeights", apart := false, narrowed := true }
def FnExactTreeHeightsUptoSaid : Prop := fnExactTreeHeightsUptoRow.holds Try.pinned (OpenSpec.upto fnExactTreeHeightsSpec)

end Rows
end Go.Proofs.Ytgbnnepbnahecaa
