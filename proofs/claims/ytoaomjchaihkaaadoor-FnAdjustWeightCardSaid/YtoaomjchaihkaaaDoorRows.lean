/-
  NARROWER THAN 'FOR EVERY INPUT', by the rows' own cells (each row's printed sentence says how): FnAdjust: ifaces, laid · FnAdjustLeast: ifaces, laid · FnAdjustRest: ifaces, laid · FnAdjustWeight: ifaces, laid · FnAdjustTwo: ifaces, laid · FnAdjustTrees: ifaces, laid · FnExactAdjustHeights: ifaces, laid · FnExactAdjustRun: ifaces, laid.
  DERIVED. THE GIVEN ROWS OF THIS SEAT. 8 by the template 'for every input the law returns true; each argument reads behind the call as it read before'; 0 by the template 'total and deterministic' (their statements: YtoaomjchaihkaaaDoorTotals.lean).
  GIVEN WITH THE SEED: the statements are not yours to turn. If you find one false, say at which input.
  Laid BY PROGRAM, IN A SANDBOX (cutbox-rows.mjs): the forced cells as the released guide's own fill.sh prints them over the translation c39d11b749b93db2… (all of the seat's roots in one cut). By AI agents, Wed Nov 11 2026. No macro, syntax, notation, axiom, sorry.
-/
import Derived.Test.YtoaomjchaihkaaaDoorChecked
import GoSem.Claim
import GoSem.ClaimJoined
import GoSem.ClaimMapViews
import Derived.JoinedTies
import Derived.KernelRfl
namespace Go.Proofs.YtoaomjchaihkaaaDoor
/- THE CELL 'sum', in the pinned program and in every row, IS THE sha256 OF THE DUMP (.gsa) THAT YtoaomjchaihkaaaDoorProg.lean LOADS. Nothing in Lean hashes anything: it is a label: what it is worth is what the hold of that sum in a sandbox is worth. -/
noncomputable def Tryd.pinned : Pinned := { name := "ytoaomjchaihkaaadoor", sum := "c39d11b749b93db2aa144ea010c1610578d87fd0dc675b271a49584fd5727aa5", checked := Tryd.checked }
namespace Rows
def none {H : Type} : Left H := { results := [], args := [] }

/- WHAT THE LISTED PACKAGE-LEVEL VARIABLES READ AS WHEN THE CALL BEGINS. Each datum BY PROGRAM (the guide's laid-datum.mjs) off the statement by which the dump's own 'gosem.cut.vars' lays the variable. In a bare row this is a premise. The card (YtoaomjchaihkaaaDoorCards.lean) ties it to the program's text. -/
def laid_loop_example_levellingnet_impl_errNoQuotients {H : Type} : DataW H := .iface "*errors.errorString" (.ptr (.agg [.lit (.string [116, 104, 101, 32, 101, 113, 117, 97, 116, 105, 111, 110, 115, 32, 104, 97, 118, 101, 32, 110, 111, 32, 113, 117, 111, 116, 105, 101, 110, 116, 115])]))

/-- 'laws.FnAdjust': WHATEVER THE INPUT: true; the input reads as it did. -/
def fnAdjustSpec : ChangeSpec := { name := "fnAdjust", vars := ["loop.example/levellingnet/impl.errNoQuotients"], fn := fun _ => fun
  | [d, g1] => { results := [.lit (.bool true)], args := [d], vars := [g1] }
  | _ => none }
def fnAdjustRow : OpenClaim := { program := "ytoaomjchaihkaaadoor", sum := "c39d11b749b93db2aa144ea010c1610578d87fd0dc675b271a49584fd5727aa5", func := "loop.example/levellingnet/laws.FnAdjust", spec := "fnAdjust", inPlace := ["internal/reflectlite.TypeOf", "slices.overlaps[loop.example/levellingnet/impl.Quo]"], unfollowed := true, recurses := true, named := ["loop.example/levellingnet/impl.errNoQuotients"], ifaces := true, apart := false, laid := [("loop.example/levellingnet/impl.errNoQuotients", laid_loop_example_levellingnet_impl_errNoQuotients)] }
def FnAdjustSaid : Prop := fnAdjustRow.holds Tryd.pinned (OpenSpec.ofChange fnAdjustSpec)

/-- ITS FALSE NEIGHBOUR: 'it returns false'. Refute it at one input. -/
def fnAdjustWrong : ChangeSpec := { name := "fnAdjust", vars := ["loop.example/levellingnet/impl.errNoQuotients"], fn := fun _ => fun
  | [d, g1] => { results := [.lit (.bool false)], args := [d], vars := [g1] }
  | _ => none }
def FnAdjustWrongFalsely : Prop := fnAdjustRow.holds Tryd.pinned (OpenSpec.ofChange fnAdjustWrong)

/-- 'laws.FnAdjustLeast': WHATEVER THE INPUT: true; the input reads as it did. -/
def fnAdjustLeastSpec : ChangeSpec := { name := "fnAdjustLeast", vars := ["loop.example/levellingnet/impl.errNoQuotients"], fn := fun _ => fun
  | [d, g1] => { results := [.lit (.bool true)], args := [d], vars := [g1] }
  | _ => none }
def fnAdjustLeastRow : OpenClaim := { program := "ytoaomjchaihkaaadoor", sum := "c39d11b749b93db2aa144ea010c1610578d87fd0dc675b271a49584fd5727aa5", func := "loop.example/levellingnet/laws.FnAdjustLeast", spec := "fnAdjustLeast", inPlace := ["internal/reflectlite.TypeOf", "slices.overlaps[loop.example/levellingnet/impl.Quo]"], unfollowed := true, recurses := true, named := ["loop.example/levellingnet/impl.errNoQuotients"], ifaces := true, apart := false, laid := [("loop.example/levellingnet/impl.errNoQuotients", laid_loop_example_levellingnet_impl_errNoQuotients)] }
def FnAdjustLeastSaid : Prop := fnAdjustLeastRow.holds Tryd.pinned (OpenSpec.ofChange fnAdjustLeastSpec)

/-- ITS FALSE NEIGHBOUR: 'it returns false'. Refute it at one input. -/
def fnAdjustLeastWrong : ChangeSpec := { name := "fnAdjustLeast", vars := ["loop.example/levellingnet/impl.errNoQuotients"], fn := fun _ => fun
  | [d, g1] => { results := [.lit (.bool false)], args := [d], vars := [g1] }
  | _ => none }
def FnAdjustLeastWrongFalsely : Prop := fnAdjustLeastRow.holds Tryd.pinned (OpenSpec.ofChange fnAdjustLeastWrong)

/-- 'laws.FnAdjustRest': WHATEVER THE INPUT: true; the input reads as it did. -/
def fnAdjustRestSpec : ChangeSpec := { name := "fnAdjustRest", vars := ["loop.example/levellingnet/impl.errNoQuotients"], fn := fun _ => fun
  | [d, g1] => { results := [.lit (.bool true)], args := [d], vars := [g1] }
  | _ => none }
def fnAdjustRestRow : OpenClaim := { program := "ytoaomjchaihkaaadoor", sum := "c39d11b749b93db2aa144ea010c1610578d87fd0dc675b271a49584fd5727aa5", func := "loop.example/levellingnet/laws.FnAdjustRest", spec := "fnAdjustRest", inPlace := ["internal/reflectlite.TypeOf", "slices.overlaps[loop.example/levellingnet/impl.Quo]"], unfollowed := true, recurses := true, named := ["loop.example/levellingnet/impl.errNoQuotients"], ifaces := true, apart := false, laid := [("loop.example/levellingnet/impl.errNoQuotients", laid_loop_example_levellingnet_impl_errNoQuotients)] }
def FnAdjustRestSaid : Prop := fnAdjustRestRow.holds Tryd.pinned (OpenSpec.ofChange fnAdjustRestSpec)

/-- ITS FALSE NEIGHBOUR: 'it returns false'. Refute it at one input. -/
def fnAdjustRestWrong : ChangeSpec := { name := "fnAdjustRest", vars := ["loop.example/levellingnet/impl.errNoQuotients"], fn := fun _ => fun
  | [d, g1] => { results := [.lit (.bool false)], args := [d], vars := [g1] }
  | _ => none }
def FnAdjustRestWrongFalsely : Prop := fnAdjustRestRow.holds Tryd.pinned (OpenSpec.ofChange fnAdjustRestWrong)

/-- 'laws.FnAdjustWeight': WHATEVER THE INPUT: true; the input reads as it did. -/
def fnAdjustWeightSpec : ChangeSpec := { name := "fnAdjustWeight", vars := ["loop.example/levellingnet/impl.errNoQuotients"], fn := fun _ => fun
  | [d, g1] => { results := [.lit (.bool true)], args := [d], vars := [g1] }
  | _ => none }
def fnAdjustWeightRow : OpenClaim := { program := "ytoaomjchaihkaaadoor", sum := "c39d11b749b93db2aa144ea010c1610578d87fd0dc675b271a49584fd5727aa5", func := "loop.example/levellingnet/laws.FnAdjustWeight", spec := "fnAdjustWeight", inPlace := ["internal/reflectlite.TypeOf", "slices.overlaps[loop.example/levellingnet/impl.Quo]"], unfollowed := true, recurses := true, named := ["loop.example/levellingnet/impl.errNoQuotients"], ifaces := true, apart := false, laid := [("loop.example/levellingnet/impl.errNoQuotients", laid_loop_example_levellingnet_impl_errNoQuotients)] }
def FnAdjustWeightSaid : Prop := fnAdjustWeightRow.holds Tryd.pinned (OpenSpec.ofChange fnAdjustWeightSpec)

/-- ITS FALSE NEIGHBOUR: 'it returns false'. Refute it at one input. -/
def fnAdjustWeightWrong : ChangeSpec := { name := "fnAdjustWeight", vars := ["loop.example/levellingnet/impl.errNoQuotients"], fn := fun _ => fun
  | [d, g1] => { results := [.lit (.bool false)], args := [d], vars := [g1] }
  | _ => none }
def FnAdjustWeightWrongFalsely : Prop := fnAdjustWeightRow.holds Tryd.pinned (OpenSpec.ofChange fnAdjustWeightWrong)

/-- 'laws.FnAdjustTwo': WHATEVER THE INPUT: true; the input reads as it did. -/
def fnAdjustTwoSpec : ChangeSpec := { name := "fnAdjustTwo", vars := ["loop.example/levellingnet/impl.errNoQuotients"], fn := fun _ => fun
  | [d, g1] => { results := [.lit (.bool true)], args := [d], vars := [g1] }
  | _ => none }
def fnAdjustTwoRow : OpenClaim := { program := "ytoaomjchaihkaaadoor", sum := "c39d11b749b93db2aa144ea010c1610578d87fd0dc675b271a49584fd5727aa5", func := "loop.example/levellingnet/laws.FnAdjustTwo", spec := "fnAdjustTwo", inPlace := ["internal/reflectlite.TypeOf", "slices.overlaps[loop.example/levellingnet/impl.Quo]"], unfollowed := true, recurses := true, named := ["loop.example/levellingnet/impl.errNoQuotients"], ifaces := true, apart := false, laid := [("loop.example/levellingnet/impl.errNoQuotients", laid_loop_example_levellingnet_impl_errNoQuotients)] }
def FnAdjustTwoSaid : Prop := fnAdjustTwoRow.holds Tryd.pinned (OpenSpec.ofChange fnAdjustTwoSpec)

/-- ITS FALSE NEIGHBOUR: 'it returns false'. Refute it at one input. -/
def fnAdjustTwoWrong : ChangeSpec := { name := "fnAdjustTwo", vars := ["loop.example/levellingnet/impl.errNoQuotients"], fn := fun _ => fun
  | [d, g1] => { results := [.lit (.bool false)], args := [d], vars := [g1] }
  | _ => none }
def FnAdjustTwoWrongFalsely : Prop := fnAdjustTwoRow.holds Tryd.pinned (OpenSpec.ofChange fnAdjustTwoWrong)

/-- 'laws.FnAdjustTrees': WHATEVER THE INPUT: true; the input reads as it did. -/
def fnAdjustTreesSpec : ChangeSpec := { name := "fnAdjustTrees", vars := ["loop.example/levellingnet/impl.errNoQuotients"], fn := fun _ => fun
  | [d, g1] => { results := [.lit (.bool true)], args := [d], vars := [g1] }
  | _ => none }
def fnAdjustTreesRow : OpenClaim := { program := "ytoaomjchaihkaaadoor", sum := "c39d11b749b93db2aa144ea010c1610578d87fd0dc675b271a49584fd5727aa5", func := "loop.example/levellingnet/laws.FnAdjustTrees", spec := "fnAdjustTrees", inPlace := ["internal/reflectlite.TypeOf", "slices.overlaps[loop.example/levellingnet/impl.Quo]"], unfollowed := true, recurses := true, named := ["loop.example/levellingnet/impl.errNoQuotients"], ifaces := true, apart := false, laid := [("loop.example/levellingnet/impl.errNoQuotients", laid_loop_example_levellingnet_impl_errNoQuotients)] }
def FnAdjustTreesSaid : Prop := fnAdjustTreesRow.holds Tryd.pinned (OpenSpec.ofChange fnAdjustTreesSpec)

/-- ITS FALSE NEIGHBOUR: 'it returns false'. Refute it at one input. -/
def fnAdjustTreesWrong : ChangeSpec := { name := "fnAdjustTrees", vars := ["loop.example/levellingnet/impl.errNoQuotients"], fn := fun _ => fun
  | [d, g1] => { results := [.lit (.bool false)], args := [d], vars := [g1] }
  | _ => none }
def FnAdjustTreesWrongFalsely : Prop := fnAdjustTreesRow.holds Tryd.pinned (OpenSpec.ofChange fnAdjustTreesWrong)

/-- 'laws.FnExactAdjustHeights': WHATEVER THE INPUT: true; the input reads as it did. -/
def fnExactAdjustHeightsSpec : ChangeSpec := { name := "fnExactAdjustHeights", vars := ["loop.example/levellingnet/impl.errNoQuotients"], fn := fun _ => fun
  | [d1, d2, g1] => { results := [.lit (.bool true)], args := [d1, d2], vars := [g1] }
  | _ => none }
def fnExactAdjustHeightsRow : OpenClaim := { program := "ytoaomjchaihkaaadoor", sum := "c39d11b749b93db2aa144ea010c1610578d87fd0dc675b271a49584fd5727aa5", func := "loop.example/levellingnet/laws.FnExactAdjustHeights", spec := "fnExactAdjustHeights", inPlace := ["internal/reflectlite.TypeOf", "slices.overlaps[loop.example/levellingnet/impl.Quo]"], unfollowed := true, recurses := true, named := ["loop.example/levellingnet/impl.errNoQuotients"], ifaces := true, apart := false, laid := [("loop.example/levellingnet/impl.errNoQuotients", laid_loop_example_levellingnet_impl_errNoQuotients)] }
def FnExactAdjustHeightsSaid : Prop := fnExactAdjustHeightsRow.holds Tryd.pinned (OpenSpec.ofChange fnExactAdjustHeightsSpec)

/-- ITS FALSE NEIGHBOUR: 'it returns false'. Refute it at one input. -/
def fnExactAdjustHeightsWrong : ChangeSpec := { name := "fnExactAdjustHeights", vars := ["loop.example/levellingnet/impl.errNoQuotients"], fn := fun _ => fun
  | [d1, d2, g1] => { results := [.lit (.bool false)], args := [d1, d2], vars := [g1] }
  | _ => none }
def FnExactAdjustHeightsWrongFalsely : Prop := fnExactAdjustHeightsRow.holds Tryd.pinned (OpenSpec.ofChange fnExactAdjustHeightsWrong)

/-- 'laws.FnExactAdjustRun': WHATEVER THE INPUT: true; the input reads as it did. -/
def fnExactAdjustRunSpec : ChangeSpec := { name := "fnExactAdjustRun", vars := ["loop.example/levellingnet/impl.errNoQuotients"], fn := fun _ => fun
  | [d1, d2, d3, g1] => { results := [.lit (.bool true)], args := [d1, d2, d3], vars := [g1] }
  | _ => none }
def fnExactAdjustRunRow : OpenClaim := { program := "ytoaomjchaihkaaadoor", sum := "c39d11b749b93db2aa144ea010c1610578d87fd0dc675b271a49584fd5727aa5", func := "loop.example/levellingnet/laws.FnExactAdjustRun", spec := "fnExactAdjustRun", inPlace := ["internal/reflectlite.TypeOf", "slices.overlaps[loop.example/levellingnet/impl.Quo]"], unfollowed := true, recurses := true, named := ["loop.example/levellingnet/impl.errNoQuotients"], ifaces := true, apart := false, laid := [("loop.example/levellingnet/impl.errNoQuotients", laid_loop_example_levellingnet_impl_errNoQuotients)] }
def FnExactAdjustRunSaid : Prop := fnExactAdjustRunRow.holds Tryd.pinned (OpenSpec.ofChange fnExactAdjustRunSpec)

/-- ITS FALSE NEIGHBOUR: 'it returns false'. Refute it at one input. -/
def fnExactAdjustRunWrong : ChangeSpec := { name := "fnExactAdjustRun", vars := ["loop.example/levellingnet/impl.errNoQuotients"], fn := fun _ => fun
  | [d1, d2, d3, g1] => { results := [.lit (.bool false)], args := [d1, d2, d3], vars := [g1] }
  | _ => none }
def FnExactAdjustRunWrongFalsely : Prop := fnExactAdjustRunRow.holds Tryd.pinned (OpenSpec.ofChange fnExactAdjustRunWrong)

/- THE SECOND FORM. 'bulk': how many values and letters a reading holds, each counted each time it is reached (what is shared counts as often as it is met; a slice's spare places count too). A statement '..UptoSaid' is the law's where the arguments, and the package variables that the reading takes, are together of bulk at most 1048576: NARROWER than '..Said'. Prove '..Said' where nothing that the law and all that it calls make is longer than what came in: it says more and counts as full. Else prove '..UptoSaid'. A law counts once. -/
mutual
def uptoBulk {H : Type} : DataW H → Nat
  | .lit (.string bytes) => bytes.length + 1
  | .lit _ => 1
  | .nil => 1
  | .ptr d => uptoBulk d + 1
  | .slice elems spare => uptoBulkAll elems + uptoBulkAll spare + 1
  | .agg parts => uptoBulkAll parts + 1
  | .iface _ d => uptoBulk d + 1
  | .map entries => uptoBulkEntries entries + 1
  | .held _ => 1
def uptoBulkAll {H : Type} : List (DataW H) → Nat
  | [] => 0
  | d :: r => uptoBulk d + uptoBulkAll r
def uptoBulkEntries {H : Type} : List (Lit × DataW H) → Nat
  | [] => 0
  | x :: r => uptoBulkEntry x + uptoBulkEntries r
def uptoBulkEntry {H : Type} : Lit × DataW H → Nat
  | (.string bytes, d) => bytes.length + uptoBulk d + 1
  | (_, d) => uptoBulk d + 1
 end
def uptoSmall : (H : Type) → List (DataW H) → Bool := fun _ ds => decide (uptoBulkAll ds ≤ 1048576)
def OpenSpec.upto (s : _root_.Go.ChangeSpec) : _root_.Go.OpenSpec := { _root_.Go.OpenSpec.ofChange s with cond := some uptoSmall }

/-- 'laws.FnAdjust', WHERE WHAT IT READS IS OF BULK AT MOST 1048576: true; the input reads as it did. -/
def fnAdjustUptoRow : OpenClaim := { program := "ytoaomjchaihkaaadoor", sum := "c39d11b749b93db2aa144ea010c1610578d87fd0dc675b271a49584fd5727aa5", func := "loop.example/levellingnet/laws.FnAdjust", spec := "fnAdjust", inPlace := ["internal/reflectlite.TypeOf", "slices.overlaps[loop.example/levellingnet/impl.Quo]"], unfollowed := true, recurses := true, named := ["loop.example/levellingnet/impl.errNoQuotients"], ifaces := true, apart := false, laid := [("loop.example/levellingnet/impl.errNoQuotients", laid_loop_example_levellingnet_impl_errNoQuotients)], narrowed := true }
def FnAdjustUptoSaid : Prop := fnAdjustUptoRow.holds Tryd.pinned (OpenSpec.upto fnAdjustSpec)

/-- 'laws.FnAdjustLeast', WHERE WHAT IT READS IS OF BULK AT MOST 1048576: true; the input reads as it did. -/
def fnAdjustLeastUptoRow : OpenClaim := { program := "ytoaomjchaihkaaadoor", sum := "c39d11b749b93db2aa144ea010c1610578d87fd0dc675b271a49584fd5727aa5", func := "loop.example/levellingnet/laws.FnAdjustLeast", spec := "fnAdjustLeast", inPlace := ["internal/reflectlite.TypeOf", "slices.overlaps[loop.example/levellingnet/impl.Quo]"], unfollowed := true, recurses := true, named := ["loop.example/levellingnet/impl.errNoQuotients"], ifaces := true, apart := false, laid := [("loop.example/levellingnet/impl.errNoQuotients", laid_loop_example_levellingnet_impl_errNoQuotients)], narrowed := true }
def FnAdjustLeastUptoSaid : Prop := fnAdjustLeastUptoRow.holds Tryd.pinned (OpenSpec.upto fnAdjustLeastSpec)

/-- 'laws.FnAdjustRest', WHERE WHAT IT READS IS OF BULK AT MOST 1048576: true; the input reads as it did. -/
def fnAdjustRestUptoRow : OpenClaim := { program := "ytoaomjchaihkaaadoor", sum := "c39d11b749b93db2aa144ea010c1610578d87fd0dc675b271a49584fd5727aa5", func := "loop.example/levellingnet/laws.FnAdjustRest", spec := "fnAdjustRest", inPlace := ["internal/reflectlite.TypeOf", "slices.overlaps[loop.example/levellingnet/impl.Quo]"], unfollowed := true, recurses := true, named := ["loop.example/levellingnet/impl.errNoQuotients"], ifaces := true, apart := false, laid := [("loop.example/levellingnet/impl.errNoQuotients", laid_loop_example_levellingnet_impl_errNoQuotients)], narrowed := true }
def FnAdjustRestUptoSaid : Prop := fnAdjustRestUptoRow.holds Tryd.pinned (OpenSpec.upto fnAdjustRestSpec)

/-- 'laws.FnAdjustWeight', WHERE WHAT IT READS IS OF BULK AT MOST 1048576: true; the input reads as it did. -/
def fnAdjustWeightUptoRow : OpenClaim := { program := "ytoaomjchaihkaaadoor", sum := "c39d11b749b93db2aa144ea010c1610578d87fd0dc675b271a49584fd5727aa5", func := "loop.example/levellingnet/laws.FnAdjustWeight", spec := "fnAdjustWeight", inPlace := ["internal/reflectlite.TypeOf", "slices.overlaps[loop.example/levellingnet/impl.Quo]"], unfollowed := true, recurses := true, named := ["loop.example/levellingnet/impl.errNoQuotients"], ifaces := true, apart := false, laid := [("loop.example/levellingnet/impl.errNoQuotients", laid_loop_example_levellingnet_impl_errNoQuotients)], narrowed := true }
def FnAdjustWeightUptoSaid : Prop := fnAdjustWeightUptoRow.holds Tryd.pinned (OpenSpec.upto fnAdjustWeightSpec)

/-- 'laws.FnAdjustTwo', WHERE WHAT IT READS IS OF BULK AT MOST 1048576: true; the input reads as it did. -/
def fnAdjustTwoUptoRow : OpenClaim := { program := "ytoaomjchaihkaaadoor", sum := "c39d11b749b93db2aa144ea010c1610578d87fd0dc675b271a49584fd5727aa5", func := "loop.example/levellingnet/laws.FnAdjustTwo", spec := "fnAdjustTwo", inPlace := ["internal/reflectlite.TypeOf", "slices.overlaps[loop.example/levellingnet/impl.Quo]"], unfollowed := true, recurses := true, named := ["loop.example/levellingnet/impl.errNoQuotients"], ifaces := true, apart := false, laid := [("loop.example/levellingnet/impl.errNoQuotients", laid_loop_example_levellingnet_impl_errNoQuotients)], narrowed := true }
def FnAdjustTwoUptoSaid : Prop := fnAdjustTwoUptoRow.holds Tryd.pinned (OpenSpec.upto fnAdjustTwoSpec)

/-- 'laws.FnAdjustTrees', WHERE WHAT IT READS IS OF BULK AT MOST 1048576: true; the input reads as it did. -/
def fnAdjustTreesUptoRow : OpenClaim := { program := "ytoaomjchaihkaaadoor", sum := "c39d11b749b93db2aa144ea010c1610578d87fd0dc675b271a49584fd5727aa5", func := "loop.example/levellingnet/laws.FnAdjustTrees", spec := "fnAdjustTrees", inPlace := ["internal/reflectlite.TypeOf", "slices.overlaps[loop.example/levellingnet/impl.Quo]"], unfollowed := true, recurses := true, named := ["loop.example/levellingnet/impl.errNoQuotients"], ifaces := true, apart := false, laid := [("loop.example/levellingnet/impl.errNoQuotients", laid_loop_example_levellingnet_impl_errNoQuotients)], narrowed := true }
def FnAdjustTreesUptoSaid : Prop := fnAdjustTreesUptoRow.holds Tryd.pinned (OpenSpec.upto fnAdjustTreesSpec)

/-- 'laws.FnExactAdjustHeights', WHERE WHAT IT READS IS OF BULK AT MOST 1048576: true; the input reads as it did. -/
def fnExactAdjustHeightsUptoRow : OpenClaim := { program := "ytoaomjchaihkaaadoor", sum := "c39d11b749b93db2aa144ea010c1610578d87fd0dc675b271a49584fd5727aa5", func := "loop.example/levellingnet/laws.FnExactAdjustHeights", spec := "fnExactAdjustHeights", inPlace := ["internal/reflectlite.TypeOf", "slices.overlaps[loop.example/levellingnet/impl.Quo]"], unfollowed := true, recurses := true, named := ["loop.example/levellingnet/impl.errNoQuotients"], ifaces := true, apart := false, laid := [("loop.example/levellingnet/impl.errNoQuotients", laid_loop_example_levellingnet_impl_errNoQuotients)], narrowed := true }
def FnExactAdjustHeightsUptoSaid : Prop := fnExactAdjustHeightsUptoRow.holds Tryd.pinned (OpenSpec.upto fnExactAdjustHeightsSpec)

/-- 'laws.FnExactAdjustRun', WHERE WHAT IT READS IS OF BULK AT MOST 1048576: true; the input reads as it did. -/
def fnExactAdjustRunUptoRow : OpenClaim := { program := "ytoaomjchaihkaaadoor", sum := "c39d11b749b93db2aa144ea010c1610578d87fd0dc675b271a49584fd5727aa5", func := "loop.example/levellingnet/laws.FnExactAdjustRun", spec := "fnExactAdjustRun", inPlace := ["internal/reflectlite.TypeOf", "slices.overlaps[loop.example/levellingnet/impl.Quo]"], unfollowed := true, recurses := true, named := ["loop.example/levellingnet/impl.errNoQuotients"], ifaces := true, apart := false, laid := [("loop.example/levellingnet/impl.errNoQuotients", laid_loop_example_levellingnet_impl_errNoQuotients)], narrowed := true }
def FnExactAdjustRunUptoSaid : Prop := fnExactAdjustRunUptoRow.holds Tryd.pinned (OpenSpec.upto fnExactAdjustRunSpec)

end Rows
end Go.Proofs.YtoaomjchaihkaaaDoor
