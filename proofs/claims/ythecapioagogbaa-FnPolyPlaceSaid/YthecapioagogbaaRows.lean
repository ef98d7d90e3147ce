/-
  No cell of these rows narrows 'for every input' (looked for: loops, veiled, ifaces, maps, wideKeys, modest, calm, conditions, laid).
  DERIVED. THE GIVEN ROWS OF THIS SEAT. 12 by the template 'for every input the law returns true; each argument reads behind the call as it read before'; 0 by the template 'total and deterministic' (their statements: YthecapioagogbaaTotals.lean).
  GIVEN WITH THE SEED: the statements are not yours to turn. If you find one false, say at which input.
  Laid BY PROGRAM, IN A SANDBOX (cutbox-rows.mjs): the forced cells as the released guide's own fill.sh prints them over the translation 4141d1ab46876d4e… (all of the seat's roots in one cut). By AI agents, Wed Nov 11 2026. No macro, syntax, notation, axiom, sorry.
-/
import Derived.Test.YthecapioagogbaaChecked
import GoSem.Claim
import GoSem.ClaimJoined
import GoSem.ClaimMapViews
import Derived.JoinedTies
import Derived.KernelRfl
namespace Go.Proofs.Ythecapioagogbaa
/- THE CELL 'sum', in the pinned program and in every row, IS THE sha256 OF THE DUMP (.gsa) THAT YthecapioagogbaaProg.lean LOADS. Nothing in Lean hashes anything: it is a label: what it is worth is what the hold of that sum in a sandbox is worth. -/
noncomputable def Try.pinned : Pinned := { name := "ythecapioagogbaa", sum := "4141d1ab46876d4e1ef4eb53268e45d47b6e7b7a440e0df5c27722ac7f382d5d", checked := Try.checked }
namespace Rows
def none {H : Type} : Left H := { results := [], args := [] }

/-- 'laws.FnPoly': WHATEVER THE INPUT: true; the input reads as it did. -/
def fnPolySpec : ChangeSpec := { name := "fnPoly", fn := fun _ => fun
  | [d1, d2] => { results := [.lit (.bool true)], args := [d1, d2] }
  | _ => none }
def fnPolyRow : OpenClaim := { program := "ythecapioagogbaa", sum := "4141d1ab46876d4e1ef4eb53268e45d47b6e7b7a440e0df5c27722ac7f382d5d", func := "loop.example/levellingnet/laws.FnPoly", spec := "fnPoly", unfollowed := true, recurses := true, apart := false }
def FnPolySaid : Prop := fnPolyRow.holds Try.pinned (OpenSpec.ofChange fnPolySpec)

/-- ITS FALSE NEIGHBOUR: 'it returns false'. Refute it at one input. -/
def fnPolyWrong : ChangeSpec := { name := "fnPoly", fn := fun _ => fun
  | [d1, d2] => { results := [.lit (.bool false)], args := [d1, d2] }
  | _ => none }
def FnPolyWrongFalsely : Prop := fnPolyRow.holds Try.pinned (OpenSpec.ofChange fnPolyWrong)

/-- 'laws.FnPolyArea': WHATEVER THE INPUT: true; the input reads as it did. -/
def fnPolyAreaSpec : ChangeSpec := { name := "fnPolyArea", fn := fun _ => fun
  | [d1, d2] => { results := [.lit (.bool true)], args := [d1, d2] }
  | _ => none }
def fnPolyAreaRow : OpenClaim := { program := "ythecapioagogbaa", sum := "4141d1ab46876d4e1ef4eb53268e45d47b6e7b7a440e0df5c27722ac7f382d5d", func := "loop.example/levellingnet/laws.FnPolyArea", spec := "fnPolyArea", unfollowed := true, recurses := true, apart := false }
def FnPolyAreaSaid : Prop := fnPolyAreaRow.holds Try.pinned (OpenSpec.ofChange fnPolyAreaSpec)

/-- ITS FALSE NEIGHBOUR: 'it returns false'. Refute it at one input. -/
def fnPolyAreaWrong : ChangeSpec := { name := "fnPolyArea", fn := fun _ => fun
  | [d1, d2] => { results := [.lit (.bool false)], args := [d1, d2] }
  | _ => none }
def FnPolyAreaWrongFalsely : Prop := fnPolyAreaRow.holds Try.pinned (OpenSpec.ofChange fnPolyAreaWrong)

/-- 'laws.FnPick': WHATEVER THE INPUT: true; the input reads as it did. -/
def fnPickSpec : ChangeSpec := { name := "fnPick", fn := fun _ => fun
  | [d] => { results := [.lit (.bool true)], args := [d] }
  | _ => none }
def fnPickRow : OpenClaim := { program := "ythecapioagogbaa", sum := "4141d1ab46876d4e1ef4eb53268e45d47b6e7b7a440e0df5c27722ac7f382d5d", func := "loop.example/levellingnet/laws.FnPick", spec := "fnPick", unfollowed := true, recurses := true, apart := false }
def FnPickSaid : Prop := fnPickRow.holds Try.pinned (OpenSpec.ofChange fnPickSpec)

/-- ITS FALSE NEIGHBOUR: 'it returns false'. Refute it at one input. -/
def fnPickWrong : ChangeSpec := { name := "fnPick", fn := fun _ => fun
  | [d] => { results := [.lit (.bool false)], args := [d] }
  | _ => none }
def FnPickWrongFalsely : Prop := fnPickRow.holds Try.pinned (OpenSpec.ofChange fnPickWrong)

/-- 'laws.FnPolyPlace': WHATEVER THE INPUT: true; the input reads as it did. -/
def fnPolyPlaceSpec : ChangeSpec := { name := "fnPolyPlace", fn := fun _ => fun
  | [d1, d2] => { results := [.lit (.bool true)], args := [d1, d2] }
  | _ => none }
def fnPolyPlaceRow : OpenClaim := { program := "ythecapioagogbaa", sum := "4141d1ab46876d4e1ef4eb53268e45d47b6e7b7a440e0df5c27722ac7f382d5d", func := "loop.example/levellingnet/laws.FnPolyPlace", spec := "fnPolyPlace", unfollowed := true, recurses := true, apart := false }
def FnPolyPlaceSaid : Prop := fnPolyPlaceRow.holds Try.pinned (OpenSpec.ofChange fnPolyPlaceSpec)

/-- ITS FALSE NEIGHBOUR: 'it returns false'. Refute it at one input. -/
def fnPolyPlaceWrong : ChangeSpec := { name := "fnPolyPlace", fn := fun _ => fun
  | [d1, d2] => { results := [.lit (.bool false)], args := [d1, d2] }
  | _ => none }
def FnPolyPlaceWrongFalsely : Prop := fnPolyPlaceRow.holds Try.pinned (OpenSpec.ofChange fnPolyPlaceWrong)

/-- 'laws.FnPolyConvex': WHATEVER THE INPUT: true; the input reads as it did. -/
def fnPolyConvexSpec : ChangeSpec := { name := "fnPolyConvex", fn := fun _ => fun
  | [d1, d2] => { results := [.lit (.bool true)], args := [d1, d2] }
  | _ => none }
def fnPolyConvexRow : OpenClaim := { program := "ythecapioagogbaa", sum := "4141d1ab46876d4e1ef4eb53268e45d47b6e7b7a440e0df5c27722ac7f382d5d", func := "loop.example/levellingnet/laws.FnPolyConvex", spec := "fnPolyConvex", unfollowed := true, recurses := true, apart := false }
def FnPolyConvexSaid : Prop := fnPolyConvexRow.holds Try.pinned (OpenSpec.ofChange fnPolyConvexSpec)

/-- ITS FALSE NEIGHBOUR: 'it returns false'. Refute it at one input. -/
def fnPolyConvexWrong : ChangeSpec := { name := "fnPolyConvex", fn := fun _ => fun
  | [d1, d2] => { results := [.lit (.bool false)], args := [d1, d2] }
  | _ => none }
def FnPolyConvexWrongFalsely : Prop := fnPolyConvexRow.holds Try.pinned (OpenSpec.ofChange fnPolyConvexWrong)

/-- 'laws.FnExactPolyValid': WHATEVER THE INPUT: true; the input reads as it did. -/
def fnExactPolyValidSpec : ChangeSpec := { name := "fnExactPolyValid", fn := fun _ => fun
  | [d] => { results := [.lit (.bool true)], args := [d] }
  | _ => none }
def fnExactPolyValidRow : OpenClaim := { program := "ythecapioagogbaa", sum := "4141d1ab46876d4e1ef4eb53268e45d47b6e7b7a440e0df5c27722ac7f382d5d", func := "loop.example/levellingnet/laws.FnExactPolyValid", spec := "fnExactPolyValid", unfollowed := true, recurses := true, apart := false }
def FnExactPolyValidSaid : Prop := fnExactPolyValidRow.holds Try.pinned (OpenSpec.ofChange fnExactPolyValidSpec)

/-- ITS FALSE NEIGHBOUR: 'it returns false'. Refute it at one input. -/
def fnExactPolyValidWrong : ChangeSpec := { name := "fnExactPolyValid", fn := fun _ => fun
  | [d] => { results := [.lit (.bool false)], args := [d] }
  | _ => none }
def FnExactPolyValidWrongFalsely : Prop := fnExactPolyValidRow.holds Try.pinned (OpenSpec.ofChange fnExactPolyValidWrong)

/-- 'laws.FnExactPolyArea': WHATEVER THE INPUT: true; the input reads as it did. -/
def fnExactPolyAreaSpec : ChangeSpec := { name := "fnExactPolyArea", fn := fun _ => fun
  | [d] => { results := [.lit (.bool true)], args := [d] }
  | _ => none }
def fnExactPolyAreaRow : OpenClaim := { program := "ythecapioagogbaa", sum := "4141d1ab46876d4e1ef4eb53268e45d47b6e7b7a440e0df5c27722ac7f382d5d", func := "loop.example/levellingnet/laws.FnExactPolyArea", spec := "fnExactPolyArea", unfollowed := true, recurses := true, apart := false }
def FnExactPolyAreaSaid : Prop := fnExactPolyAreaRow.holds Try.pinned (OpenSpec.ofChange fnExactPolyAreaSpec)

/-- ITS FALSE NEIGHBOUR: 'it returns false'. Refute it at one input. -/
def fnExactPolyAreaWrong : ChangeSpec := { name := "fnExactPolyArea", fn := fun _ => fun
  | [d] => { results := [.lit (.bool false)], args := [d] }
  | _ => none }
def FnExactPolyAreaWrongFalsely : Prop := fnExactPolyAreaRow.holds Try.pinned (OpenSpec.ofChange fnExactPolyAreaWrong)

/-- 'laws.FnExactPolyEdge': WHATEVER THE INPUT: true; the input reads as it did. -/
def fnExactPolyEdgeSpec : ChangeSpec := { name := "fnExactPolyEdge", fn := fun _ => fun
  | [d] => { results := [.lit (.bool true)], args := [d] }
  | _ => none }
def fnExactPolyEdgeRow : OpenClaim := { program := "ythecapioagogbaa", sum := "4141d1ab46876d4e1ef4eb53268e45d47b6e7b7a440e0df5c27722ac7f382d5d", func := "loop.example/levellingnet/laws.FnExactPolyEdge", spec := "fnExactPolyEdge", unfollowed := true, recurses := true, apart := false }
def FnExactPolyEdgeSaid : Prop := fnExactPolyEdgeRow.holds Try.pinned (OpenSpec.ofChange fnExactPolyEdgeSpec)

/-- ITS FALSE NEIGHBOUR: 'it returns false'. Refute it at one input. -/
def fnExactPolyEdgeWrong : ChangeSpec := { name := "fnExactPolyEdge", fn := fun _ => fun
  | [d] => { results := [.lit (.bool false)], args := [d] }
  | _ => none }
def FnExactPolyEdgeWrongFalsely : Prop := fnExactPolyEdgeRow.holds Try.pinned (OpenSpec.ofChange fnExactPolyEdgeWrong)

/-- 'laws.FnExactPolyInside': WHATEVER THE INPUT: true; the input reads as it did. -/
def fnExactPolyInsideSpec : ChangeSpec := { name := "fnExactPolyInside", fn := fun _ => fun
  | [d] => { results := [.lit (.bool true)], args := [d] }
  | _ => none }
def fnExactPolyInsideRow : OpenClaim := { program := "ythecapioagogbaa", sum := "4141d1ab46876d4e1ef4eb53268e45d47b6e7b7a440e0df5c27722ac7f382d5d", func := "loop.example/levellingnet/laws.FnExactPolyInside", spec := "fnExactPolyInside", unfollowed := true, recurses := true, apart := false }
def FnExactPolyInsideSaid : Prop := fnExactPolyInsideRow.holds Try.pinned (OpenSpec.ofChange fnExactPolyInsideSpec)

/-- ITS FALSE NEIGHBOUR: 'it returns false'. Refute it at one input. -/
def fnExactPolyInsideWrong : ChangeSpec := { name := "fnExactPolyInside", fn := fun _ => fun
  | [d] => { results := [.lit (.bool false)], args := [d] }
  | _ => none }
def FnExactPolyInsideWrongFalsely : Prop := fnExactPolyInsideRow.holds Try.pinned (OpenSpec.ofChange fnExactPolyInsideWrong)

/-- 'laws.FnExactPolyPlace': WHATEVER THE INPUT: true; the input reads as it did. -/
def fnExactPolyPlaceSpec : ChangeSpec := { name := "fnExactPolyPlace", fn := fun _ => fun
  | [d1, d2] => { results := [.lit (.bool true)], args := [d1, d2] }
  | _ => none }
def fnExactPolyPlaceRow : OpenClaim := { program := "ythecapioagogbaa", sum := "4141d1ab46876d4e1ef4eb53268e45d47b6e7b7a440e0df5c27722ac7f382d5d", func := "loop.example/levellingnet/laws.FnExactPolyPlace", spec := "fnExactPolyPlace", unfollowed := true, recurses := true, apart := false }
def FnExactPolyPlaceSaid : Prop := fnExactPolyPlaceRow.holds Try.pinned (OpenSpec.ofChange fnExactPolyPlaceSpec)

/-- ITS FALSE NEIGHBOUR: 'it returns false'. Refute it at one input. -/
def fnExactPolyPlaceWrong : ChangeSpec := { name := "fnExactPolyPlace", fn := fun _ => fun
  | [d1, d2] => { results := [.lit (.bool false)], args := [d1, d2] }
  | _ => none }
def FnExactPolyPlaceWrongFalsely : Prop := fnExactPolyPlaceRow.holds Try.pinned (OpenSpec.ofChange fnExactPolyPlaceWrong)

/-- 'laws.FnExactPolyBack': WHATEVER THE INPUT: true; the input reads as it did. -/
def fnExactPolyBackSpec : ChangeSpec := { name := "fnExactPolyBack", fn := fun _ => fun
  | [d] => { results := [.lit (.bool true)], args := [d] }
  | _ => none }
def fnExactPolyBackRow : OpenClaim := { program := "ythecapioagogbaa", sum := "4141d1ab46876d4e1ef4eb53268e45d47b6e7b7a440e0df5c27722ac7f382d5d", func := "loop.example/levellingnet/laws.FnExactPolyBack", spec := "fnExactPolyBack", unfollowed := true, recurses := true, apart := false }
def FnExactPolyBackSaid : Prop := fnExactPolyBackRow.holds Try.pinned (OpenSpec.ofChange fnExactPolyBackSpec)

/-- ITS FALSE NEIGHBOUR: 'it returns false'. Refute it at one input. -/
def fnExactPolyBackWrong : ChangeSpec := { name := "fnExactPolyBack", fn := fun _ => fun
  | [d] => { results := [.lit (.bool false)], args := [d] }
  | _ => none }
def FnExactPolyBackWrongFalsely : Prop := fnExactPolyBackRow.holds Try.pinned (OpenSpec.ofChange fnExactPolyBackWrong)

/-- 'laws.FnExactPolyConvex': WHATEVER THE INPUT: true; the input reads as it did. -/
def fnExactPolyConvexSpec : ChangeSpec := { name := "fnExactPolyConvex", fn := fun _ => fun
  | [d] => { results := [.lit (.bool true)], args := [d] }
  | _ => none }
def fnExactPolyConvexRow : OpenClaim := { program := "ythecapioagogbaa", sum := "4141d1ab46876d4e1ef4eb53268e45d47b6e7b7a440e0df5c27722ac7f382d5d", func := "loop.example/levellingnet/laws.FnExactPolyConvex", spec := "fnExactPolyConvex", unfollowed := true, recurses := true, apart := false }
def FnExactPolyConvexSaid : Prop := fnExactPolyConvexRow.holds Try.pinned (OpenSpec.ofChange fnExactPolyConvexSpec)

/-- ITS FALSE NEIGHBOUR: 'it returns false'. Refute it at one input. -/
def fnExactPolyConvexWrong : ChangeSpec := { name := "fnExactPolyConvex", fn := fun _ => fun
  | [d] => { results := [.lit (.bool false)], args := [d] }
  | _ => none }
def FnExactPolyConvexWrongFalsely : Prop := fnExactPolyConvexRow.holds Try.pinned (OpenSpec.ofChange fnExactPolyConvexWrong)

/- THE SECOND FORM. 'bulk': how many values and letters a reading holds, each counted each time it is reached (what is shared counts as often as it is met; a slice's spare places count too). A statement '..UptoSaid' is the law's where the arguments, and the package variables that the reading takes, are together of bulk at most 1048576: NARROWER than '..Said'. Prove '..Said' where nothing that the law and all that it calls make is longer than what came in: it says more and counts as full. Else prove '..UptoSaid'. A law counts once. -/
mutual
def uptoBulk {H : Type} : DataW H → Nat
  | .lit (.string bytes) => bytes.length + 1
  | .lit _ => 1
  | .nil => 1
  | .ptr d => uptoBulk d + 1
  | .slice elems spare => uptoBulkAll elems + uptoBulkAll spare + 1
  | .agg parts => uptoBulkAll parts + 1
  | .iface _ d => uptoBulk d + 1
  | .map entries => uptoBulkEntries entries + 1
  | .held _ => 1
def uptoBulkAll {H : Type} : List (DataW H) → Nat
  | [] => 0
  | d :: r => uptoBulk d + uptoBulkAll r
def uptoBulkEntries {H : Type} : List (Lit × DataW H) → Nat
  | [] => 0
  | x :: r => uptoBulkEntry x + uptoBulkEntries r
def uptoBulkEntry {H : Type} : Lit × DataW H → Nat
  | (.string bytes, d) => bytes.length + uptoBulk d + 1
  | (_, d) => uptoBulk d + 1
 end
def uptoSmall : (H : Type) → List (DataW H) → Bool := fun _ ds => decide (uptoBulkAll ds ≤ 1048576)
def OpenSpec.upto (s : _root_.Go.ChangeSpec) : _root_.Go.OpenSpec := { _root_.Go.OpenSpec.ofChange s with cond := some uptoSmall }

/-- 'laws.FnPoly', WHERE WHAT IT READS IS OF BULK AT MOST 1048576: true; the input reads as it did. -/
def fnPolyUptoRow : OpenClaim := { program := "ythecapioagogbaa", sum := "4141d1ab46876d4e1ef4eb53268e45d47b6e7b7a440e0df5c27722ac7f382d5d", func := "loop.example/levellingnet/laws.FnPoly", spec := "fnPoly", unfollowed := true, recurses := true, apart := false, narrowed := true }
def FnPolyUptoSaid : Prop := fnPolyUptoRow.holds Try.pinned (OpenSpec.upto fnPolySpec)

/-- 'laws.FnPolyArea', WHERE WHAT IT READS IS OF BULK AT MOST 1048576: true; the input reads as it did. -/
def fnPolyAreaUptoRow : OpenClaim := { program := "ythecapioagogbaa", sum := "4141d1ab46876d4e1ef4eb53268e45d47b6e7b7a440e0df5c27722ac7f382d5d", func := "loop.example/levellingnet/laws.FnPolyArea", spec := "fnPolyArea", unfollowed := true, recurses := true, apart := false, narrowed := true }
def FnPolyAreaUptoSaid : Prop := fnPolyAreaUptoRow.holds Try.pinned (OpenSpec.upto fnPolyAreaSpec)

/-- 'laws.FnPick', WHERE WHAT IT READS IS OF BULK AT MOST 1048576: true; the input reads as it did. -/
def fnPickUptoRow : OpenClaim := { program := "ythecapioagogbaa", sum := "4141d1ab46876d4e1ef4eb53268e45d47b6e7b7a440e0df5c27722ac7f382d5d", func := "loop.example/levellingnet/laws.FnPick", spec := "fnPick", unfollowed := true, recurses := true, apart := false, narrowed := true }
def FnPickUptoSaid : Prop := fnPickUptoRow.holds Try.pinned (OpenSpec.upto fnPickSpec)

/-- 'laws.FnPolyPlace', WHERE WHAT IT READS IS OF BULK AT MOST 1048576: true; the input reads as it did. -/
def fnPolyPlaceUptoRow : OpenClaim := { program := "ythecapioagogbaa", sum := "4141d1ab46876d4e1ef4eb53268e45d47b6e7b7a440e0df5c27722ac7f382d5d", func := "loop.example/levellingnet/laws.FnPolyPlace", spec := "fnPolyPlace", unfollowed := true, recurses := true, apart := false, narrowed := true }
def FnPolyPlaceUptoSaid : Prop := fnPolyPlaceUptoRow.holds Try.pinned (OpenSpec.upto fnPolyPlaceSpec)

/-- 'laws.FnPolyConvex', WHERE WHAT IT READS IS OF BULK AT MOST 1048576: true; the input reads as it did. -/
def fnPolyConvexUptoRow : OpenClaim := { program := "ythecapioagogbaa", sum := "4141d1ab46876d4e1ef4eb53268e45d47b6e7b7a440e0df5c27722ac7f382d5d", func := "loop.example/levellingnet/laws.FnPolyConvex", spec := "fnPolyConvex", unfollowed := true, recurses := true, apart := false, narrowed := true }
def FnPolyConvexUptoSaid : Prop := fnPolyConvexUptoRow.holds Try.pinned (OpenSpec.upto fnPolyConvexSpec)

/-- 'laws.FnExactPolyValid', WHERE WHAT IT READS IS OF BULK AT MOST 1048576: true; the input reads as it did. -/
def fnExactPolyValidUptoRow : OpenClaim := { program := "ythecapioagogbaa", sum := "4141d1ab46876d4e1ef4eb53268e45d47b6e7b7a440e0df5c27722ac7f382d5d", func := "loop.example/levellingnet/laws.FnExactPolyValid", spec := "fnExactPolyValid", unfollowed := true, recurses := true, apart := false, narrowed := true }
def FnExactPolyValidUptoSaid : Prop := fnExactPolyValidUptoRow.holds Try.pinned (OpenSpec.upto fnExactPolyValidSpec)

/-- 'laws.FnExactPolyArea', WHERE WHAT IT READS IS OF BULK AT MOST 1048576: true; the input reads as it did. -/
def fnExactPolyAreaUptoRow : OpenClaim := { program := "ythecapioagogbaa", sum := "4141d1ab46876d4e1ef4eb53268e45d47b6e7b7a440e0df5c27722ac7f382d5d", func := "loop.example/levellingnet/laws.FnExactPolyArea", spec := "fnExactPolyArea", unfollowed := true, recurses := true, apart := false, narrowed := true }
def FnExactPolyAreaUptoSaid : Prop := fnExactPolyAreaUptoRow.holds Try.pinned (OpenSpec.upto fnExactPolyAreaSpec)

/-- 'laws.FnExactPolyEdge', WHERE WHAT IT READS IS OF BULK AT MOST 1048576: true; the input reads as it did. -/
def fnExactPolyEdgeUptoRow : OpenClaim := { program := "ythecapioagogbaa", sum := "4141d1ab46876d4e1ef4eb53268e45d47b6e7b7a440e0df5c27722ac7f382d5d", func := "loop.example/levellingnet/laws.FnExactPolyEdge", spec := "fnExactPolyEdge", unfollowed := true, recurses := true, apart := false, narrowed := true }
def FnExactPolyEdgeUptoSaid : Prop := fnExactPolyEdgeUptoRow.holds Try.pinned (OpenSpec.upto fnExactPolyEdgeSpec)

/-- 'laws.FnExactPolyInside', WHERE WHAT IT READS IS OF BULK AT MOST 1048576: true; the input reads as it did. -/
def fnExactPolyInsideUptoRow : OpenClaim := { program := "ythecapioagogbaa", sum := "4141d1ab46876d4e1ef4eb53268e45d47b6e7b7a440e0df5c27722ac7f382d5d", func := "loop.example/levellingnet/laws.FnExactPolyInside", spec := "fnExactPolyInside", unfollowed := true, recurses := true, apart := false, narrowed := true }
def FnExactPolyInsideUptoSaid : Prop := fnExactPolyInsideUptoRow.holds Try.pinned (OpenSpec.upto fnExactPolyInsideSpec)

/-- 'laws.FnExactPolyPlace', WHERE WHAT IT READS IS OF BULK AT MOST 1048576: true; the input reads as it did. -/
def fnExactPolyPlaceUptoRow : OpenClaim := { program := "ythecapioagogbaa", sum := "4141d1ab46876d4e1ef4eb53268e45d47b6e7b7a440e0df5c27722ac7f382d5d", func := "loop.example/levellingnet/laws.FnExactPolyPlace", spec := "fnExactPolyPlace", unfollowed := true, recurses := true, apart := false, narrowed := true }
def FnExactPolyPlaceUptoSaid : Prop := fnExactPolyPlaceUptoRow.holds Try.pinned (OpenSpec.upto fnExactPolyPlaceSpec)

/-- 'laws.FnExactPolyBack', WHERE WHAT IT READS IS OF BULK AT MOST 1048576: true; the input reads as it did. -/
def fnExactPolyBackUptoRow : OpenClaim := { program := "ythecapioagogbaa", sum := "4141d1ab46876d4e1ef4eb53268e45d47b6e7b7a440e0df5c27722ac7f382d5d", func := "loop.example/levellingnet/laws.FnExactPolyBack", spec := "fnExactPolyBack", unfollowed := true, recurses := true, apart := false, narrowed := true }
def FnExactPolyBackUptoSaid : Prop := fnExactPolyBackUptoRow.holds Try.pinned (OpenSpec.upto fnExactPolyBackSpec)

/-- 'laws.FnExactPolyConvex', WHERE WHAT IT READS IS OF BULK AT MOST 1048576: true; the input reads as it did. -/
def fnExactPolyConvexUptoRow : OpenClaim := { program := "ythecapioagogbaa", sum := "4141d1ab46876d4e1ef4eb53268e45d47b6e7b7a440e0df5c27722ac7f382d5d", func := "loop.example/levellingnet/laws.FnExactPolyConvex", spec := "fnExactPolyConvex", unfollowed := true, recurses := true, apart := false, narrowed := true }
def FnExactPolyConvexUptoSaid : Prop := fnExactPolyConvexUptoRow.holds Try.pinned (OpenSpec.upto fnExactPolyConvexSpec)

end Rows
end Go.Proofs.Ythecapioagogbaa
