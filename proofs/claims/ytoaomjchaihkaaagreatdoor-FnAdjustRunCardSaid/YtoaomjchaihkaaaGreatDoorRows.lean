/-
  NARROWER THAN 'FOR EVERY INPUT', by the rows' own cells (each row's printed sentence says how): FnAdjustFit: ifaces, laid · FnAdjustRun: ifaces, laid · FnSpreadBlunder: ifaces, laid.
  DERIVED. THE GIVEN ROWS OF THIS SEAT. 3 by the template 'for every input the law returns true; each argument reads behind the call as it read before'; 0 by the template 'total and deterministic' (their statements: YtoaomjchaihkaaaGreatDoorTotals.lean).
  GIVEN WITH THE SEED: the statements are not yours to turn. If you find one false, say at which input.
  Laid BY PROGRAM, IN A SANDBOX (cutbox-rows.mjs): the forced cells as the released guide's own fill.sh prints them over the translation 0f11fcae871ef297… (all of the seat's roots in one cut). By AI agents, Wed Nov 11 2026. No macro, syntax, notation, axiom, sorry.
-/
import Derived.Test.YtoaomjchaihkaaaGreatDoorChecked
import GoSem.Claim
import GoSem.ClaimJoined
import GoSem.ClaimMapViews
import Derived.JoinedTies
import Derived.KernelRfl
namespace Go.Proofs.YtoaomjchaihkaaaGreatDoor
/- THE CELL 'sum', in the pinned program and in every row, IS THE sha256 OF THE DUMP (.gsa) THAT YtoaomjchaihkaaaGreatDoorProg.lean LOADS. Nothing in Lean hashes anything: it is a label: what it is worth is what the hold of that sum in a sandbox is worth. -/
noncomputable def Tryz.pinned : Pinned := { name := "ytoaomjchaihkaaagreatdoor", sum := "0f11fcae871ef29715bf9acfa904d4076051c4753d89685ac372481b131c8754", checked := Tryz.checked }
namespace Rows
def none {H : Type} : Left H := { results := [], args := [] }

/- WHAT THE LISTED PACKAGE-LEVEL VARIABLES READ AS WHEN THE CALL BEGINS. Each datum BY PROGRAM (the guide's laid-datum.mjs) off the statement by which the dump's own 'gosem.cut.vars' lays the variable. In a bare row this is a premise. The card (YtoaomjchaihkaaaGreatDoorCards.lean) ties it to the program's text. -/
def laid_loop_example_levellingnet_impl_errNoQuotients {H : Type} : DataW H := .iface "*errors.errorString" (.ptr (.agg [.lit (.string [116, 104, 101, 32, 101, 113, 117, 97, 116, 105, 111, 110, 115, 32, 104, 97, 118, 101, 32, 110, 111, 32, 113, 117, 111, 116, 105, 101, 110, 116, 115])]))

/-- 'laws.FnAdjustFit': WHATEVER THE INPUT: true; the input reads as it did. -/
def fnAdjustFitSpec : ChangeSpec := { name := "fnAdjustFit", vars := ["loop.example/levellingnet/impl.errNoQuotients"], fn := fun _ => fun
  | [d1, d2, g1] => { results := [.lit (.bool true)], args := [d1, d2], vars := [g1] }
  | _ => none }
def fnAdjustFitRow : OpenClaim := { program := "ytoaomjchaihkaaagreatdoor", sum := "0f11fcae871ef29715bf9acfa904d4076051c4753d89685ac372481b131c8754", func := "loop.example/levellingnet/laws.FnAdjustFit", spec := "fnAdjustFit", inPlace := ["internal/reflectlite.TypeOf", "slices.overlaps[loop.example/levellingnet/impl.Quo]"], unfollowed := true, recurses := true, named := ["loop.example/levellingnet/impl.errNoQuotients"], ifaces := true, apart := false, laid := [("loop.example/levellingnet/impl.errNoQuotients", laid_loop_example_levellingnet_impl_errNoQuotients)] }
def FnAdjustFitSaid : Prop := fnAdjustFitRow.holds Tryz.pinned (OpenSpec.ofChange fnAdjustFitSpec)

/-- ITS FALSE NEIGHBOUR: 'it returns false'. Refute it at one input. -/
def fnAdjustFitWrong : ChangeSpec := { name := "fnAdjustFit", vars := ["loop.example/levellingnet/impl.errNoQuotients"], fn := fun _ => fun
  | [d1, d2, g1] => { results := [.lit (.bool false)], args := [d1, d2], vars := [g1] }
  | _ => none }
def FnAdjustFitWrongFalsely : Prop := fnAdjustFitRow.holds Tryz.pinned (OpenSpec.ofChange fnAdjustFitWrong)

/-- 'laws.FnAdjustRun': WHATEVER THE INPUT: true; the input reads as it did. -/
def fnAdjustRunSpec : ChangeSpec := { name := "fnAdjustRun", vars := ["loop.example/levellingnet/impl.errNoQuotients"], fn := fun _ => fun
  | [d, g1] => { results := [.lit (.bool true)], args := [d], vars := [g1] }
  | _ => none }
def fnAdjustRunRow : OpenClaim := { program := "ytoaomjchaihkaaagreatdoor", sum := "0f11fcae871ef29715bf9acfa904d4076051c4753d89685ac372481b131c8754", func := "loop.example/levellingnet/laws.FnAdjustRun", spec := "fnAdjustRun", inPlace := ["internal/reflectlite.TypeOf", "slices.overlaps[loop.example/levellingnet/impl.Quo]"], unfollowed := true, recurses := true, named := ["loop.example/levellingnet/impl.errNoQuotients"], ifaces := true, apart := false, laid := [("loop.example/levellingnet/impl.errNoQuotients", laid_loop_example_levellingnet_impl_errNoQuotients)] }
def FnAdjustRunSaid : Prop := fnAdjustRunRow.holds Tryz.pinned (OpenSpec.ofChange fnAdjustRunSpec)

/-- ITS FALSE NEIGHBOUR: 'it returns false'. Refute it at one input. -/
def fnAdjustRunWrong : ChangeSpec := { name := "fnAdjustRun", vars := ["loop.example/levellingnet/impl.errNoQuotients"], fn := fun _ => fun
  | [d, g1] => { results := [.lit (.bool false)], args := [d], vars := [g1] }
  | _ => none }
def FnAdjustRunWrongFalsely : Prop := fnAdjustRunRow.holds Tryz.pinned (OpenSpec.ofChange fnAdjustRunWrong)

/-- 'laws.FnSpreadBlunder': WHATEVER THE INPUT: true; the input reads as it did. -/
def fnSpreadBlunderSpec : ChangeSpec := { name := "fnSpreadBlunder", vars := ["loop.example/levellingnet/impl.errNoQuotients"], fn := fun _ => fun
  | [d, g1] => { results := [.lit (.bool true)], args := [d], vars := [g1] }
  | _ => none }
def fnSpreadBlunderRow : OpenClaim := { program := "ytoaomjchaihkaaagreatdoor", sum := "0f11fcae871ef29715bf9acfa904d4076051c4753d89685ac372481b131c8754", func := "loop.example/levellingnet/laws.FnSpreadBlunder", spec := "fnSpreadBlunder", inPlace := ["internal/reflectlite.TypeOf", "slices.overlaps[loop.example/levellingnet/impl.Quo]"], unfollowed := true, recurses := true, named := ["loop.example/levellingnet/impl.errNoQuotients"], ifaces := true, apart := false, laid := [("loop.example/levellingnet/impl.errNoQuotients", laid_loop_example_levellingnet_impl_errNoQuotients)] }
def FnSpreadBlunderSaid : Prop := fnSpreadBlunderRow.holds Tryz.pinned (OpenSpec.ofChange fnSpreadBlunderSpec)

/-- ITS FALSE NEIGHBOUR: 'it returns false'. Refute it at one input. -/
def fnSpreadBlunderWrong : ChangeSpec := { name := "fnSpreadBlunder", vars := ["loop.example/levellingnet/impl.errNoQuotients"], fn := fun _ => fun
  | [d, g1] => { results := [.lit (.bool false)], args := [d], vars := [g1] }
  | _ => none }
def FnSpreadBlunderWrongFalsely : Prop := fnSpreadBlunderRow.holds Tryz.pinned (OpenSpec.ofChange fnSpreadBlunderWrong)

/- THE SECOND FORM. 'bulk': how many values and letters a reading holds, each counted each time it is reached (what is shared counts as often as it is met; a slice's spare places count too). A statement '..UptoSaid' is the law's where the arguments, and the package variables that the reading takes, are together of bulk at most 1048576: NARROWER than '..Said'. Prove '..Said' where nothing that the law and all that it calls make is longer than what came in: it says more and counts as full. Else prove '..UptoSaid'. A law counts once. -/
mutual
def uptoBulk {H : Type} : DataW H → Nat
  | .lit (.string bytes) => bytes.length + 1
  | .lit _ => 1
  | .nil => 1
  | .ptr d => uptoBulk d + 1
  | .slice elems spare => uptoBulkAll elems + uptoBulkAll spare + 1
  | .agg parts => uptoBulkAll parts + 1
  | .iface _ d => uptoBulk d + 1
  | .map entries => uptoBulkEntries entries + 1
  | .held _ => 1
def uptoBulkAll {H : Type} : List (DataW H) → Nat
  | [] => 0
  | d :: r => uptoBulk d + uptoBulkAll r
def uptoBulkEntries {H : Type} : List (Lit × DataW H) → Nat
  | [] => 0
  | x :: r => uptoBulkEntry x + uptoBulkEntries r
def uptoBulkEntry {H : Type} : Lit × DataW H → Nat
  | (.string bytes, d) => bytes.length + uptoBulk d + 1
  | (_, d) => uptoBulk d + 1
 end
def uptoSmall : (H : Type) → List (DataW H) → Bool := fun _ ds => decide (uptoBulkAll ds ≤ 1048576)
def OpenSpec.upto (s : _root_.Go.ChangeSpec) : _root_.Go.OpenSpec := { _root_.Go.OpenSpec.ofChange s with cond := some uptoSmall }

/-- 'laws.FnAdjustFit', WHERE WHAT IT READS IS OF BULK AT MOST 1048576: true; the input reads as it did. -/
def fnAdjustFitUptoRow : OpenClaim := { program := "ytoaomjchaihkaaagreatdoor", sum := "0f11fcae871ef29715bf9acfa904d4076051c4753d89685ac372481b131c8754", func := "loop.example/levellingnet/laws.FnAdjustFit", spec := "fnAdjustFit", inPlace := ["internal/reflectlite.TypeOf", "slices.overlaps[loop.example/levellingnet/impl.Quo]"], unfollowed := true, recurses := true, named := ["loop.example/levellingnet/impl.errNoQuotients"], ifaces := true, apart := false, laid := [("loop.example/levellingnet/impl.errNoQuotients", laid_loop_example_levellingnet_impl_errNoQuotients)], narrowed := true }
def FnAdjustFitUptoSaid : Prop := fnAdjustFitUptoRow.holds Tryz.pinned (OpenSpec.upto fnAdjustFitSpec)

/-- 'laws.FnAdjustRun', WHERE WHAT IT READS IS OF BULK AT MOST 1048576: true; the input reads as it did. -/
def fnAdjustRunUptoRow : OpenClaim := { program := "ytoaomjchaihkaaagreatdoor", sum := "0f11fcae871ef29715bf9acfa904d4076051c4753d89685ac372481b131c8754", func := "loop.example/levellingnet/laws.FnAdjustRun", spec := "fnAdjustRun", inPlace := ["internal/reflectlite.TypeOf", "slices.overlaps[loop.example/levellingnet/impl.Quo]"], unfollowed := true, recurses := true, named := ["loop.example/levellingnet/impl.errNoQuotients"], ifaces := true, apart := false, laid := [("loop.example/levellingnet/impl.errNoQuotients", laid_loop_example_levellingnet_impl_errNoQuotients)], narrowed := true }
def FnAdjustRunUptoSaid : Prop := fnAdjustRunUptoRow.holds Tryz.pinned (OpenSpec.upto fnAdjustRunSpec)

/-- 'laws.FnSpreadBlunder', WHERE WHAT IT READS IS OF BULK AT MOST 1048576: true; the input reads as it did. -/
def fnSpreadBlunderUptoRow : OpenClaim := { program := "ytoaomjchaihkaaagreatdoor", sum := "0f11fcae871ef29715bf9acfa904d4076051c4753d89685ac372481b131c8754", func := "loop.example/levellingnet/laws.FnSpreadBlunder", spec := "fnSpreadBlunder", inPlace := ["internal/reflectlite.TypeOf", "slices.overlaps[loop.example/levellingnet/impl.Quo]"], unfollowed := true, recurses := true, named := ["loop.example/levellingnet/impl.errNoQuotients"], ifaces := true, apart := false, laid := [("loop.example/levellingnet/impl.errNoQuotients", laid_loop_example_levellingnet_impl_errNoQuotients)], narrowed := true }
def FnSpreadBlunderUptoSaid : Prop := fnSpreadBlunderUptoRow.holds Tryz.pinned (OpenSpec.upto fnSpreadBlunderSpec)

end Rows
end Go.Proofs.YtoaomjchaihkaaaGreatDoor
