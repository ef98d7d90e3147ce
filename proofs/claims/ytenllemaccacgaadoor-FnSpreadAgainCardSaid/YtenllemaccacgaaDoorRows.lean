/-
  NARROWER THAN 'FOR EVERY INPUT', by the rows' own cells (each row's printed sentence says how): FnSpreadAgain: ifaces, laid.
  DERIVED. THE GIVEN ROWS OF THIS SEAT. 1 by the template 'for every input the law returns true; each argument reads behind the call as it read before'; 0 by the template 'total and deterministic' (their statements: YtenllemaccacgaaDoorTotals.lean).
  GIVEN WITH THE SEED: the statements are not yours to turn. If you find one false, say at which input.
  Laid BY PROGRAM, IN A SANDBOX (cutbox-rows.mjs): the forced cells as the released guide's own fill.sh prints them over the translation 04611cb9f0b12244… (all of the seat's roots in one cut). By AI agents, Wed Nov 11 2026. No macro, syntax, notation, axiom, sorry.
-/
import Derived.Test.YtenllemaccacgaaDoorChecked
import GoSem.Claim
import GoSem.ClaimJoined
import GoSem.ClaimMapViews
import Derived.JoinedTies
import Derived.KernelRfl
namespace Go.Proofs.YtenllemaccacgaaDoor
/- THE CELL 'sum', in the pinned program and in every row, IS THE sha256 OF THE DUMP (.gsa) THAT YtenllemaccacgaaDoorProg.lean LOADS. Nothing in Lean hashes anything: it is a label: what it is worth is what the hold of that sum in a sandbox is worth. -/
noncomputable def Tryd.pinned : Pinned := { name := "ytenllemaccacgaadoor", sum := "04611cb9f0b122446d159258c292f64bb6a43aae5406718e257103cb59174dd7", checked := Tryd.checked }
namespace Rows
def none {H : Type} : Left H := { results := [], args := [] }

/- WHAT THE LISTED PACKAGE-LEVEL VARIABLES READ AS WHEN THE CALL BEGINS. Each datum BY PROGRAM (the guide's laid-datum.mjs) off the statement by which the dump's own 'gosem.cut.vars' lays the variable. In a bare row this is a premise. The card (YtenllemaccacgaaDoorCards.lean) ties it to the program's text. -/
def laid_loop_example_levellingnet_impl_errNoQuotients {H : Type} : DataW H := .iface "*errors.errorString" (.ptr (.agg [.lit (.string [116, 104, 101, 32, 101, 113, 117, 97, 116, 105, 111, 110, 115, 32, 104, 97, 118, 101, 32, 110, 111, 32, 113, 117, 111, 116, 105, 101, 110, 116, 115])]))

/-- 'laws.FnSpreadAgain': WHATEVER THE INPUT: true; the input reads as it did. -/
def fnSpreadAgainSpec : ChangeSpec := { name := "fnSpreadAgain", vars := ["loop.example/levellingnet/impl.errNoQuotients"], fn := fun _ => fun
  | [d, g1] => { results := [.lit (.bool true)], args := [d], vars := [g1] }
  | _ => none }
def fnSpreadAgainRow : OpenClaim := { program := "ytenllemaccacgaadoor", sum := "04611cb9f0b122446d159258c292f64bb6a43aae5406718e257103cb59174dd7", func := "loop.example/levellingnet/laws.FnSpreadAgain", spec := "fnSpreadAgain", inPlace := ["internal/reflectlite.TypeOf", "slices.overlaps[loop.example/levellingnet/impl.Quo]"], unfollowed := true, recurses := true, named := ["loop.example/levellingnet/impl.errNoQuotients"], ifaces := true, apart := false, laid := [("loop.example/levellingnet/impl.errNoQuotients", laid_loop_example_levellingnet_impl_errNoQuotients)] }
def FnSpreadAgainSaid : Prop := fnSpreadAgainRow.holds Tryd.pinned (OpenSpec.ofChange fnSpreadAgainSpec)

/-- ITS FALSE NEIGHBOUR: 'it returns false'. Refute it at one input. -/
def fnSpreadAgainWrong : ChangeSpec := { name := "fnSpreadAgain", vars := ["loop.example/levellingnet/impl.errNoQuotients"], fn := fun _ => fun
  | [d, g1] => { results := [.lit (.bool false)], args := [d], vars := [g1] }
  | _ => none }
def FnSpreadAgainWrongFalsely : Prop := fnSpreadAgainRow.holds Tryd.pinned (OpenSpec.ofChange fnSpreadAgainWrong)

/- THE SECOND FORM. 'bulk': how many values and letters a reading holds, each counted each time it is reached (what is shared counts as often as it is met; a slice's spare places count too). A statement '..UptoSaid' is the law's where the arguments, and the package variables that the reading takes, are together of bulk at most 1048576: NARROWER than '..Said'. Prove '..Said' where nothing that the law and all that it calls make is longer than what came in: it says more and counts as full. Else prove '..UptoSaid'. A law counts once. -/
mutual
def uptoBulk {H : Type} : DataW H → Nat
  | .lit (.string bytes) => bytes.length + 1
  | .lit _ => 1
  | .nil => 1
  | .ptr d => uptoBulk d + 1
  | .slice elems spare => uptoBulkAll elems + uptoBulkAll spare + 1
  | .agg parts => uptoBulkAll parts + 1
  | .iface _ d => uptoBulk d + 1
  | .map entries => uptoBulkEntries entries + 1
  | .held _ => 1
def uptoBulkAll {H : Type} : List (DataW H) → Nat
  | [] => 0
  | d :: r => uptoBulk d + uptoBulkAll r
def uptoBulkEntries {H : Type} : List (Lit × DataW H) → Nat
  | [] => 0
  | x :: r => uptoBulkEntry x + uptoBulkEntries r
def uptoBulkEntry {H : Type} : Lit × DataW H → Nat
  | (.string bytes, d) => bytes.length + uptoBulk d + 1
  | (_, d) => uptoBulk d + 1
 end
def uptoSmall : (H : Type) → List (DataW H) → Bool := fun _ ds => decide (uptoBulkAll ds ≤ 1048576)
def OpenSpec.upto (s : _root_.Go.ChangeSpec) : _root_.Go.OpenSpec := { _root_.Go.OpenSpec.ofChange s with cond := some uptoSmall }

/-- 'laws.FnSpreadAgain', WHERE WHAT IT READS IS OF BULK AT MOST 1048576: true; the input reads as it did. -/
def fnSpreadAgainUptoRow : OpenClaim := { program := "ytenllemaccacgaadoor", sum := "04611cb9f0b122446d159258c292f64bb6a43aae5406718e257103cb59174dd7", func := "loop.example/levellingnet/laws.FnSpreadAgain", spec := "fnSpreadAgain", inPlace := ["internal/reflectlite.TypeOf", "slices.overlaps[loop.example/levellingnet/impl.Quo]"], unfollowed := true, recurses := true, named := ["loop.example/levellingnet/impl.errNoQuotients"], ifaces := true, apart := false, laid := [("loop.example/levellingnet/impl.errNoQuotients", laid_loop_example_levellingnet_impl_errNoQuotients)], narrowed := true }
def FnSpreadAgainUptoSaid : Prop := fnSpreadAgainUptoRow.holds Tryd.pinned (OpenSpec.upto fnSpreadAgainSpec)

end Rows
end Go.Proofs.YtenllemaccacgaaDoor
