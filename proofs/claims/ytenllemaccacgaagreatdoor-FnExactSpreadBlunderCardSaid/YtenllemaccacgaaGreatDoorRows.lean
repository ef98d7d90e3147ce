/-
  NARROWER THAN 'FOR EVERY INPUT', by the rows' own cells (each row's printed sentence says how): FnSpreadBlunderRest: ifaces, laid · FnSpreadBlunder: ifaces, laid · FnExactSpreadBlunder: ifaces, laid.
  DERIVED. THE GIVEN ROWS OF THIS SEAT. 3 by the template 'for every input the law returns true; each argument reads behind the call as it read before'; 0 by the template 'total and deterministic' (their statements: YtenllemaccacgaaGreatDoorTotals.lean).
  GIVEN WITH THE SEED: the statements are not yours to turn. If you find one false, say at which input.
  Laid BY PROGRAM, IN A SANDBOX (cutbox-rows.mjs): the forced cells as the released guide's own fill.sh prints them over the translation 66f962fb8dec39c1… (all of the seat's roots in one cut). By AI agents, Wed Nov 11 2026. No macro, syntax, notation, axiom, sorry.
-/
import Derived.Test.YtenllemaccacgaaGreatDoorChecked
import GoSem.Claim
import GoSem.ClaimJoined
import GoSem.ClaimMapViews
import Derived.JoinedTies
import Derived.KernelRfl
namespace Go.Proofs.YtenllemaccacgaaGreatDoor
/- THE CELL 'sum', in the pinned program and in every row, IS THE sha256 OF THE DUMP (.gsa) THAT YtenllemaccacgaaGreatDoorProg.lean LOADS. Nothing in Lean hashes anything: it is a label: what it is worth is what the hold of that sum in a sandbox is worth. -/
noncomputable def Tryz.pinned : Pinned := { name := "ytenllemaccacgaagreatdoor", sum := "66f962fb8dec39c1420820cde49992bdf80a75db32dbea6d5907f8918407fe4e", checked := Tryz.checked }
namespace Rows
def none {H : Type} : Left H := { results := [], args := [] }

/- WHAT THE LISTED PACKAGE-LEVEL VARIABLES READ AS WHEN THE CALL BEGINS. Each datum BY PROGRAM (the guide's laid-datum.mjs) off the statement by which the dump's own 'gosem.cut.vars' lays the variable. In a bare row this is a premise. The card (YtenllemaccacgaaGreatDoorCards.lean) ties it to the program's text. -/
def laid_loop_example_levellingnet_impl_errNoQuotients {H : Type} : DataW H := .iface "*errors.errorString" (.ptr (.agg [.lit (.string [116, 104, 101, 32, 101, 113, 117, 97, 116, 105, 111, 110, 115, 32, 104, 97, 118, 101, 32, 110, 111, 32, 113, 117, 111, 116, 105, 101, 110, 116, 115])]))

/-- 'laws.FnSpreadBlunderRest': WHATEVER THE INPUT: true; the input reads as it did. -/
def fnSpreadBlunderRestSpec : ChangeSpec := { name := "fnSpreadBlunderRest", vars := ["loop.example/levellingnet/impl.errNoQuotients"], fn := fun _ => fun
  | [d1, d2, g1] => { results := [.lit (.bool true)], args := [d1, d2], vars := [g1] }
  | _ => none }
def fnSpreadBlunderRestRow : OpenClaim := { program := "ytenllemaccacgaagreatdoor", sum := "66f962fb8dec39c1420820cde49992bdf80a75db32dbea6d5907f8918407fe4e", func := "loop.example/levellingnet/laws.FnSpreadBlunderRest", spec := "fnSpreadBlunderRest", inPlace := ["internal/reflectlite.TypeOf", "slices.overlaps[loop.example/levellingnet/impl.Quo]"], unfollowed := true, recurses := true, named := ["loop.example/levellingnet/impl.errNoQuotients"], ifaces := true, apart := false, laid := [("loop.example/levellingnet/impl.errNoQuotients", laid_loop_example_levellingnet_impl_errNoQuotients)] }
def FnSpreadBlunderRestSaid : Prop := fnSpreadBlunderRestRow.holds Tryz.pinned (OpenSpec.ofChange fnSpreadBlunderRestSpec)

/-- ITS FALSE NEIGHBOUR: 'it returns false'. Refute it at one input. -/
def fnSpreadBlunderRestWrong : ChangeSpec := { name := "fnSpreadBlunderRest", vars := ["loop.example/levellingnet/impl.errNoQuotients"], fn := fun _ => fun
  | [d1, d2, g1] => { results := [.lit (.bool false)], args := [d1, d2], vars := [g1] }
  | _ => none }
def FnSpreadBlunderRestWrongFalsely : Prop := fnSpreadBlunderRestRow.holds Tryz.pinned (OpenSpec.ofChange fnSpreadBlunderRestWrong)

/-- 'laws.FnSpreadBlunder': WHATEVER THE INPUT: true; the input reads as it did. -/
def fnSpreadBlunderSpec : ChangeSpec := { name := "fnSpreadBlunder", vars := ["loop.example/levellingnet/impl.errNoQuotients"], fn := fun _ => fun
  | [d, g1] => { results := [.lit (.bool true)], args := [d], vars := [g1] }
  | _ => none }
def fnSpreadBlunderRow : OpenClaim := { program := "ytenllemaccacgaagreatdoor", sum := "66f962fb8dec39c1420820cde49992bdf80a75db32dbea6d5907f8918407fe4e", func := "loop.example/levellingnet/laws.FnSpreadBlunder", spec := "fnSpreadBlunder", inPlace := ["internal/reflectlite.TypeOf", "slices.overlaps[loop.example/levellingnet/impl.Quo]"], unfollowed := true, recurses := true, named := ["loop.example/levellingnet/impl.errNoQuotients"], ifaces := true, apart := false, laid := [("loop.example/levellingnet/impl.errNoQuotients", laid_loop_example_levellingnet_impl_errNoQuotients)] }
def FnSpreadBlunderSaid : Prop := fnSpreadBlunderRow.holds Tryz.pinned (OpenSpec.ofChange fnSpreadBlunderSpec)

/-- ITS FALSE NEIGHBOUR: 'it returns false'. Refute it at one input. -/
def fnSpreadBlunderWrong : ChangeSpec := { name := "fnSpreadBlunder", vars := ["loop.example/levellingnet/impl.errNoQuotients"], fn := fun _ => fun
  | [d, g1] => { results := [.lit (.bool false)], args := [d], vars := [g1] }
  | _ => none }
def FnSpreadBlunderWrongFalsely : Prop := fnSpreadBlunderRow.holds Tryz.pinned (OpenSpec.ofChange fnSpreadBlunderWrong)

/-- 'laws.FnExactSpreadBlunder': WHATEVER THE INPUT: true; the input reads as it did. -/
def fnExactSpreadBlunderSpec : ChangeSpec := { name := "fnExactSpreadBlunder", vars := ["loop.example/levellingnet/impl.errNoQuotients"], fn := fun _ => fun
  | [d1, d2, g1] => { results := [.lit (.bool true)], args := [d1, d2], vars := [g1] }
  | _ => none }
def fnExactSpreadBlunderRow : OpenClaim := { program := "ytenllemaccacgaagreatdoor", sum := "66f962fb8dec39c1420820cde49992bdf80a75db32dbea6d5907f8918407fe4e", func := "loop.example/levellingnet/laws.FnExactSpreadBlunder", spec := "fnExactSpreadBlunder", inPlace := ["internal/reflectlite.TypeOf", "slices.overlaps[loop.example/levellingnet/impl.Quo]"], unfollowed := true, recurses := true, named := ["loop.example/levellingnet/impl.errNoQuotients"], ifaces := true, apart := false, laid := [("loop.example/levellingnet/impl.errNoQuotients", laid_loop_example_levellingnet_impl_errNoQuotients)] }
def FnExactSpreadBlunderSaid : Prop := fnExactSpreadBlunderRow.holds Tryz.pinned (OpenSpec.ofChange fnExactSpreadBlunderSpec)

/-- ITS FALSE NEIGHBOUR: 'it returns false'. Refute it at one input. -/
def fnExactSpreadBlunderWrong : ChangeSpec := { name := "fnExactSpreadBlunder", vars := ["loop.example/levellingnet/impl.errNoQuotients"], fn := fun _ => fun
  | [d1, d2, g1] => { results := [.lit (.bool false)], args := [d1, d2], vars := [g1] }
  | _ => none }
def FnExactSpreadBlunderWrongFalsely : Prop := fnExactSpreadBlunderRow.holds Tryz.pinned (OpenSpec.ofChange fnExactSpreadBlunderWrong)

/- THE SECOND FORM. 'bulk': how many values and letters a reading holds, each counted each time it is reached (what is shared counts as often as it is met; a slice's spare places count too). A statement '..UptoSaid' is the law's where the arguments, and the package variables that the reading takes, are together of bulk at most 1048576: NARROWER than '..Said'. Prove '..Said' where nothing that the law and all that it calls make is longer than what came in: it says more and counts as full. Else prove '..UptoSaid'. A law counts once. -/
mutual
def uptoBulk {H : Type} : DataW H → Nat
  | .lit (.string bytes) => bytes.length + 1
  | .lit _ => 1
  | .nil => 1
  | .ptr d => uptoBulk d + 1
  | .slice elems spare => uptoBulkAll elems + uptoBulkAll spare + 1
  | .agg parts => uptoBulkAll parts + 1
  | .iface _ d => uptoBulk d + 1
  | .map entries => uptoBulkEntries entries + 1
  | .held _ => 1
def uptoBulkAll {H : Type} : List (DataW H) → Nat
  | [] => 0
  | d :: r => uptoBulk d + uptoBulkAll r
def uptoBulkEntries {H : Type} : List (Lit × DataW H) → Nat
  | [] => 0
  | x :: r => uptoBulkEntry x + uptoBulkEntries r
def uptoBulkEntry {H : Type} : Lit × DataW H → Nat
  | (.string bytes, d) => bytes.length + uptoBulk d + 1
  | (_, d) => uptoBulk d + 1
 end
def uptoSmall : (H : Type) → List (DataW H) → Bool := fun _ ds => decide (uptoBulkAll ds ≤ 1048576)
def OpenSpec.upto (s : _root_.Go.ChangeSpec) : _root_.Go.OpenSpec := { _root_.Go.OpenSpec.ofChange s with cond := some uptoSmall }

/-- 'laws.FnSpreadBlunderRest', WHERE WHAT IT READS IS OF BULK AT MOST 1048576: true; the input reads as it did. -/
def fnSpreadBlunderRestUptoRow : OpenClaim := { program := "ytenllemaccacgaagreatdoor", sum := "66f962fb8dec39c1420820cde49992bdf80a75db32dbea6d5907f8918407fe4e", func := "loop.example/levellingnet/laws.FnSpreadBlunderRest", spec := "fnSpreadBlunderRest", inPlace := ["internal/reflectlite.TypeOf", "slices.overlaps[loop.example/levellingnet/impl.Quo]"], unfollowed := true, recurses := true, named := ["loop.example/levellingnet/impl.errNoQuotients"], ifaces := true, apart := false, laid := [("loop.example/levellingnet/impl.errNoQuotients", laid_loop_example_levellingnet_impl_errNoQuotients)], narrowed := true }
def FnSpreadBlunderRestUptoSaid : Prop := fnSpreadBlunderRestUptoRow.holds Tryz.pinned (OpenSpec.upto fnSpreadBlunderRestSpec)

/-- 'laws.FnSpreadBlunder', WHERE WHAT IT READS IS OF BULK AT MOST 1048576: true; the input reads as it did. -/
def fnSpreadBlunderUptoRow : OpenClaim := { program := "ytenllemaccacgaagreatdoor", sum := "66f962fb8dec39c1420820cde49992bdf80a75db32dbea6d5907f8918407fe4e", func := "loop.example/levellingnet/laws.FnSpreadBlunder", spec := "fnSpreadBlunder", inPlace := ["internal/reflectlite.TypeOf", "slices.overlaps[loop.example/levellingnet/impl.Quo]"], unfollowed := true, recurses := true, named := ["loop.example/levellingnet/impl.errNoQuotients"], ifaces := true, apart := false, laid := [("loop.example/levellingnet/impl.errNoQuotients", laid_loop_example_levellingnet_impl_errNoQuotients)], narrowed := true }
def FnSpreadBlunderUptoSaid : Prop := fnSpreadBlunderUptoRow.holds Tryz.pinned (OpenSpec.upto fnSpreadBlunderSpec)

/-- 'laws.FnExactSpreadBlunder', WHERE WHAT IT READS IS OF BULK AT MOST 1048576: true; the input reads as it did. -/
def fnExactSpreadBlunderUptoRow : OpenClaim := { program := "ytenllemaccacgaagreatdoor", sum := "66f962fb8dec39c1420820cde49992bdf80a75db32dbea6d5907f8918407fe4e", func := "loop.example/levellingnet/laws.FnExactSpreadBlunder", spec := "fnExactSpreadBlunder", inPlace := ["internal/reflectlite.TypeOf", "slices.overlaps[loop.example/levellingnet/impl.Quo]"], unfollowed := true, recurses := true, named := ["loop.example/levellingnet/impl.errNoQuotients"], ifaces := true, apart := false, laid := [("loop.example/levellingnet/impl.errNoQuotients", laid_loop_example_levellingnet_impl_errNoQuotients)], narrowed := true }
def FnExactSpreadBlunderUptoSaid : Prop := fnExactSpreadBlunderUptoRow.holds Tryz.pinned (OpenSpec.upto fnExactSpreadBlunderSpec)

end Rows
end Go.Proofs.YtenllemaccacgaaGreatDoor
