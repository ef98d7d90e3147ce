/-
  No cell of these rows narrows 'for every input' (looked for: loops, veiled, ifaces, maps, wideKeys, modest, calm, conditions, laid).
  DERIVED. THE GIVEN ROWS OF THIS SEAT. 12 by the template 'for every input the law returns true; each argument reads behind the call as it read before'; 0 by the template 'total and deterministic' (their statements: YtimghdffmdcheaaTotals.lean).
  GIVEN WITH THE SEED: the statements are not yours to turn. If you find one false, say at which input.
  Laid BY PROGRAM, IN A SANDBOX (cutbox-rows.mjs): the forced cells as the released guide's own fill.sh prints them over the translation efc758257e878a53… (all of the seat's roots in one cut). By AI agents, Wed Nov 11 2026. No macro, syntax, notation, axiom, sorry.
-/
import Derived.Test.YtimghdffmdcheaaChecked
import GoSem.Claim
import GoSem.ClaimJoined
import GoSem.ClaimMapViews
import Derived.JoinedTies
import Derived.KernelRfl
namespace Go.Proofs.Ytimghdffmdcheaa
/- THE CELL 'sum', in the pinned program and in every row, IS THE sha256 OF THE DUMP (.gsa) THAT YtimghdffmdcheaaProg.lean LOADS. Nothing in Lean hashes anything: it is a label: what it is worth is what the hold of that sum in a sandbox is worth. -/
noncomputable def Try.pinned : Pinned := { name := "ytimghdffmdcheaa", sum := "efc758257e878a534861ee88051f7e1bab1ad2411efa5cea11d28d5558278e16", checked := Try.checked }
namespace Rows
def none {H : Type} : Left H := { results := [], args := [] }

/-- 'laws.FnLoop': WHATEVER THE INPUT: true; the input reads as it did. -/
def fnLoopSpec : ChangeSpec := { name := "fnLoop", fn := fun _ => fun
  | [d1, d2] => { results := [.lit (.bool true)], args := [d1, d2] }
  | _ => none }
def fnLoopRow : OpenClaim := { program := "ytimghdffmdcheaa", sum := "efc758257e878a534861ee88051f7e1bab1ad2411efa5cea11d28d5558278e16", func := "loop.example/levellingnet/laws.FnLoop", spec := "fnLoop", recurses := true, apart := false }
def FnLoopSaid : Prop := fnLoopRow.holds Try.pinned (OpenSpec.ofChange fnLoopSpec)

/-- ITS FALSE NEIGHBOUR: 'it returns false'. Refute it at one input. -/
def fnLoopWrong : ChangeSpec := { name := "fnLoop", fn := fun _ => fun
  | [d1, d2] => { results := [.lit (.bool false)], args := [d1, d2] }
  | _ => none }
def FnLoopWrongFalsely : Prop := fnLoopRow.holds Try.pinned (OpenSpec.ofChange fnLoopWrong)

/-- 'laws.FnLoopBack': WHATEVER THE INPUT: true; the input reads as it did. -/
def fnLoopBackSpec : ChangeSpec := { name := "fnLoopBack", fn := fun _ => fun
  | [d] => { results := [.lit (.bool true)], args := [d] }
  | _ => none }
def fnLoopBackRow : OpenClaim := { program := "ytimghdffmdcheaa", sum := "efc758257e878a534861ee88051f7e1bab1ad2411efa5cea11d28d5558278e16", func := "loop.example/levellingnet/laws.FnLoopBack", spec := "fnLoopBack", recurses := true, apart := false }
def FnLoopBackSaid : Prop := fnLoopBackRow.holds Try.pinned (OpenSpec.ofChange fnLoopBackSpec)

/-- ITS FALSE NEIGHBOUR: 'it returns false'. Refute it at one input. -/
def fnLoopBackWrong : ChangeSpec := { name := "fnLoopBack", fn := fun _ => fun
  | [d] => { results := [.lit (.bool false)], args := [d] }
  | _ => none }
def FnLoopBackWrongFalsely : Prop := fnLoopBackRow.holds Try.pinned (OpenSpec.ofChange fnLoopBackWrong)

/-- 'laws.FnLoopOf': WHATEVER THE INPUT: true; the input reads as it did. -/
def fnLoopOfSpec : ChangeSpec := { name := "fnLoopOf", fn := fun _ => fun
  | [d] => { results := [.lit (.bool true)], args := [d] }
  | _ => none }
def fnLoopOfRow : OpenClaim := { program := "ytimghdffmdcheaa", sum := "efc758257e878a534861ee88051f7e1bab1ad2411efa5cea11d28d5558278e16", func := "loop.example/levellingnet/laws.FnLoopOf", spec := "fnLoopOf", recurses := true, apart := false }
def FnLoopOfSaid : Prop := fnLoopOfRow.holds Try.pinned (OpenSpec.ofChange fnLoopOfSpec)

/-- ITS FALSE NEIGHBOUR: 'it returns false'. Refute it at one input. -/
def fnLoopOfWrong : ChangeSpec := { name := "fnLoopOf", fn := fun _ => fun
  | [d] => { results := [.lit (.bool false)], args := [d] }
  | _ => none }
def FnLoopOfWrongFalsely : Prop := fnLoopOfRow.holds Try.pinned (OpenSpec.ofChange fnLoopOfWrong)

/-- 'laws.FnLoopErrors': WHATEVER THE INPUT: true; the input reads as it did. -/
def fnLoopErrorsSpec : ChangeSpec := { name := "fnLoopErrors", fn := fun _ => fun
  | [d] => { results := [.lit (.bool true)], args := [d] }
  | _ => none }
def fnLoopErrorsRow : OpenClaim := { program := "ytimghdffmdcheaa", sum := "efc758257e878a534861ee88051f7e1bab1ad2411efa5cea11d28d5558278e16", func := "loop.example/levellingnet/laws.FnLoopErrors", spec := "fnLoopErrors", recurses := true, apart := false }
def FnLoopErrorsSaid : Prop := fnLoopErrorsRow.holds Try.pinned (OpenSpec.ofChange fnLoopErrorsSpec)

/-- ITS FALSE NEIGHBOUR: 'it returns false'. Refute it at one input. -/
def fnLoopErrorsWrong : ChangeSpec := { name := "fnLoopErrors", fn := fun _ => fun
  | [d] => { results := [.lit (.bool false)], args := [d] }
  | _ => none }
def FnLoopErrorsWrongFalsely : Prop := fnLoopErrorsRow.holds Try.pinned (OpenSpec.ofChange fnLoopErrorsWrong)

/-- 'laws.FnLoopCloses': WHATEVER THE INPUT: true; the input reads as it did. -/
def fnLoopClosesSpec : ChangeSpec := { name := "fnLoopCloses", fn := fun _ => fun
  | [d1, d2] => { results := [.lit (.bool true)], args := [d1, d2] }
  | _ => none }
def fnLoopClosesRow : OpenClaim := { program := "ytimghdffmdcheaa", sum := "efc758257e878a534861ee88051f7e1bab1ad2411efa5cea11d28d5558278e16", func := "loop.example/levellingnet/laws.FnLoopCloses", spec := "fnLoopCloses", recurses := true, apart := false }
def FnLoopClosesSaid : Prop := fnLoopClosesRow.holds Try.pinned (OpenSpec.ofChange fnLoopClosesSpec)

/-- ITS FALSE NEIGHBOUR: 'it returns false'. Refute it at one input. -/
def fnLoopClosesWrong : ChangeSpec := { name := "fnLoopCloses", fn := fun _ => fun
  | [d1, d2] => { results := [.lit (.bool false)], args := [d1, d2] }
  | _ => none }
def FnLoopClosesWrongFalsely : Prop := fnLoopClosesRow.holds Try.pinned (OpenSpec.ofChange fnLoopClosesWrong)

/-- 'laws.FnLoopErrorsShift': WHATEVER THE INPUT: true; the input reads as it did. -/
def fnLoopErrorsShiftSpec : ChangeSpec := { name := "fnLoopErrorsShift", fn := fun _ => fun
  | [d1, d2] => { results := [.lit (.bool true)], args := [d1, d2] }
  | _ => none }
def fnLoopErrorsShiftRow : OpenClaim := { program := "ytimghdffmdcheaa", sum := "efc758257e878a534861ee88051f7e1bab1ad2411efa5cea11d28d5558278e16", func := "loop.example/levellingnet/laws.FnLoopErrorsShift", spec := "fnLoopErrorsShift", recurses := true, apart := false }
def FnLoopErrorsShiftSaid : Prop := fnLoopErrorsShiftRow.holds Try.pinned (OpenSpec.ofChange fnLoopErrorsShiftSpec)

/-- ITS FALSE NEIGHBOUR: 'it returns false'. Refute it at one input. -/
def fnLoopErrorsShiftWrong : ChangeSpec := { name := "fnLoopErrorsShift", fn := fun _ => fun
  | [d1, d2] => { results := [.lit (.bool false)], args := [d1, d2] }
  | _ => none }
def FnLoopErrorsShiftWrongFalsely : Prop := fnLoopErrorsShiftRow.holds Try.pinned (OpenSpec.ofChange fnLoopErrorsShiftWrong)

/-- 'laws.FnExactLoopIs': WHATEVER THE INPUT: true; the input reads as it did. -/
def fnExactLoopIsSpec : ChangeSpec := { name := "fnExactLoopIs", fn := fun _ => fun
  | [d1, d2, d3] => { results := [.lit (.bool true)], args := [d1, d2, d3] }
  | _ => none }
def fnExactLoopIsRow : OpenClaim := { program := "ytimghdffmdcheaa", sum := "efc758257e878a534861ee88051f7e1bab1ad2411efa5cea11d28d5558278e16", func := "loop.example/levellingnet/laws.FnExactLoopIs", spec := "fnExactLoopIs", apart := false }
def FnExactLoopIsSaid : Prop := fnExactLoopIsRow.holds Try.pinned (OpenSpec.ofChange fnExactLoopIsSpec)

/-- ITS FALSE NEIGHBOUR: 'it returns false'. Refute it at one input. -/
def fnExactLoopIsWrong : ChangeSpec := { name := "fnExactLoopIs", fn := fun _ => fun
  | [d1, d2, d3] => { results := [.lit (.bool false)], args := [d1, d2, d3] }
  | _ => none }
def FnExactLoopIsWrongFalsely : Prop := fnExactLoopIsRow.holds Try.pinned (OpenSpec.ofChange fnExactLoopIsWrong)

/-- 'laws.FnExactLoopError': WHATEVER THE INPUT: true; the input reads as it did. -/
def fnExactLoopErrorSpec : ChangeSpec := { name := "fnExactLoopError", fn := fun _ => fun
  | [d1, d2, d3] => { results := [.lit (.bool true)], args := [d1, d2, d3] }
  | _ => none }
def fnExactLoopErrorRow : OpenClaim := { program := "ytimghdffmdcheaa", sum := "efc758257e878a534861ee88051f7e1bab1ad2411efa5cea11d28d5558278e16", func := "loop.example/levellingnet/laws.FnExactLoopError", spec := "fnExactLoopError", apart := false }
def FnExactLoopErrorSaid : Prop := fnExactLoopErrorRow.holds Try.pinned (OpenSpec.ofChange fnExactLoopErrorSpec)

/-- ITS FALSE NEIGHBOUR: 'it returns false'. Refute it at one input. -/
def fnExactLoopErrorWrong : ChangeSpec := { name := "fnExactLoopError", fn := fun _ => fun
  | [d1, d2, d3] => { results := [.lit (.bool false)], args := [d1, d2, d3] }
  | _ => none }
def FnExactLoopErrorWrongFalsely : Prop := fnExactLoopErrorRow.holds Try.pinned (OpenSpec.ofChange fnExactLoopErrorWrong)

/-- 'laws.FnExactLoopOf': WHATEVER THE INPUT: true; the input reads as it did. -/
def fnExactLoopOfSpec : ChangeSpec := { name := "fnExactLoopOf", fn := fun _ => fun
  | [d1, d2, d3] => { results := [.lit (.bool true)], args := [d1, d2, d3] }
  | _ => none }
def fnExactLoopOfRow : OpenClaim := { program := "ytimghdffmdcheaa", sum := "efc758257e878a534861ee88051f7e1bab1ad2411efa5cea11d28d5558278e16", func := "loop.example/levellingnet/laws.FnExactLoopOf", spec := "fnExactLoopOf", recurses := true, apart := false }
def FnExactLoopOfSaid : Prop := fnExactLoopOfRow.holds Try.pinned (OpenSpec.ofChange fnExactLoopOfSpec)

/-- ITS FALSE NEIGHBOUR: 'it returns false'. Refute it at one input. -/
def fnExactLoopOfWrong : ChangeSpec := { name := "fnExactLoopOf", fn := fun _ => fun
  | [d1, d2, d3] => { results := [.lit (.bool false)], args := [d1, d2, d3] }
  | _ => none }
def FnExactLoopOfWrongFalsely : Prop := fnExactLoopOfRow.holds Try.pinned (OpenSpec.ofChange fnExactLoopOfWrong)

/-- 'laws.FnExactLoopErrors': WHATEVER THE INPUT: true; the input reads as it did. -/
def fnExactLoopErrorsSpec : ChangeSpec := { name := "fnExactLoopErrors", fn := fun _ => fun
  | [d1, d2] => { results := [.lit (.bool true)], args := [d1, d2] }
  | _ => none }
def fnExactLoopErrorsRow : OpenClaim := { program := "ytimghdffmdcheaa", sum := "efc758257e878a534861ee88051f7e1bab1ad2411efa5cea11d28d5558278e16", func := "loop.example/levellingnet/laws.FnExactLoopErrors", spec := "fnExactLoopErrors", recurses := true, apart := false }
def FnExactLoopErrorsSaid : Prop := fnExactLoopErrorsRow.holds Try.pinned (OpenSpec.ofChange fnExactLoopErrorsSpec)

/-- ITS FALSE NEIGHBOUR: 'it returns false'. Refute it at one input. -/
def fnExactLoopErrorsWrong : ChangeSpec := { name := "fnExactLoopErrors", fn := fun _ => fun
  | [d1, d2] => { results := [.lit (.bool false)], args := [d1, d2] }
  | _ => none }
def FnExactLoopErrorsWrongFalsely : Prop := fnExactLoopErrorsRow.holds Try.pinned (OpenSpec.ofChange fnExactLoopErrorsWrong)

/-- 'laws.FnExactLoopCloses': WHATEVER THE INPUT: true; the input reads as it did. -/
def fnExactLoopClosesSpec : ChangeSpec := { name := "fnExactLoopCloses", fn := fun _ => fun
  | [d1, d2] => { results := [.lit (.bool true)], args := [d1, d2] }
  | _ => none }
def fnExactLoopClosesRow : OpenClaim := { program := "ytimghdffmdcheaa", sum := "efc758257e878a534861ee88051f7e1bab1ad2411efa5cea11d28d5558278e16", func := "loop.example/levellingnet/laws.FnExactLoopCloses", spec := "fnExactLoopCloses", recurses := true, apart := false }
def FnExactLoopClosesSaid : Prop := fnExactLoopClosesRow.holds Try.pinned (OpenSpec.ofChange fnExactLoopClosesSpec)

/-- ITS FALSE NEIGHBOUR: 'it returns false'. Refute it at one input. -/
def fnExactLoopClosesWrong : ChangeSpec := { name := "fnExactLoopCloses", fn := fun _ => fun
  | [d1, d2] => { results := [.lit (.bool false)], args := [d1, d2] }
  | _ => none }
def FnExactLoopClosesWrongFalsely : Prop := fnExactLoopClosesRow.holds Try.pinned (OpenSpec.ofChange fnExactLoopClosesWrong)

/-- 'laws.FnExactLoopBack': WHATEVER THE INPUT: true; the input reads as it did. -/
def fnExactLoopBackSpec : ChangeSpec := { name := "fnExactLoopBack", fn := fun _ => fun
  | [d1, d2, d3] => { results := [.lit (.bool true)], args := [d1, d2, d3] }
  | _ => none }
def fnExactLoopBackRow : OpenClaim := { program := "ytimghdffmdcheaa", sum := "efc758257e878a534861ee88051f7e1bab1ad2411efa5cea11d28d5558278e16", func := "loop.example/levellingnet/laws.FnExactLoopBack", spec := "fnExactLoopBack", apart := false }
def FnExactLoopBackSaid : Prop := fnExactLoopBackRow.holds Try.pinned (OpenSpec.ofChange fnExactLoopBackSpec)

/-- ITS FALSE NEIGHBOUR: 'it returns false'. Refute it at one input. -/
def fnExactLoopBackWrong : ChangeSpec := { name := "fnExactLoopBack", fn := fun _ => fun
  | [d1, d2, d3] => { results := [.lit (.bool false)], args := [d1, d2, d3] }
  | _ => none }
def FnExactLoopBackWrongFalsely : Prop := fnExactLoopBackRow.holds Try.pinned (OpenSpec.ofChange fnExactLoopBackWrong)

/- THE SECOND FORM. 'bulk': how many values and letters a reading holds, each counted each time it is reached (what is shared counts as often as it is met; a slice's spare places count too). A statement '..UptoSaid' is the law's where the arguments, and the package variables that the reading takes, are together of bulk at most 1048576: NARROWER than '..Said'. Prove '..Said' where nothing that the law and all that it calls make is longer than what came in: it says more and counts as full. Else prove '..UptoSaid'. A law counts once. -/
mutual
def uptoBulk {H : Type} : DataW H → Nat
  | .lit (.string bytes) => bytes.length + 1
  | .lit _ => 1
  | .nil => 1
  | .ptr d => uptoBulk d + 1
  | .slice elems spare => uptoBulkAll elems + uptoBulkAll spare + 1
  | .agg parts => uptoBulkAll parts + 1
  | .iface _ d => uptoBulk d + 1
  | .map entries => uptoBulkEntries entries + 1
  | .held _ => 1
def uptoBulkAll {H : Type} : List (DataW H) → Nat
  | [] => 0
  | d :: r => uptoBulk d + uptoBulkAll r
def uptoBulkEntries {H : Type} : List (Lit × DataW H) → Nat
  | [] => 0
  | x :: r => uptoBulkEntry x + uptoBulkEntries r
def uptoBulkEntry {H : Type} : Lit × DataW H → Nat
  | (.string bytes, d) => bytes.length + uptoBulk d + 1
  | (_, d) => uptoBulk d + 1
 end
def uptoSmall : (H : Type) → List (DataW H) → Bool := fun _ ds => decide (uptoBulkAll ds ≤ 1048576)
def OpenSpec.upto (s : _root_.Go.ChangeSpec) : _root_.Go.OpenSpec := { _root_.Go.OpenSpec.ofChange s with cond := some uptoSmall }

/-- 'laws.FnLoop', WHERE WHAT IT READS IS OF BULK AT MOST 1048576: true; the input reads as it did. -/
def fnLoopUptoRow : OpenClaim := { program := "ytimghdffmdcheaa", sum := "efc758257e878a534861ee88051f7e1bab1ad2411efa5cea11d28d5558278e16", func := "loop.example/levellingnet/laws.FnLoop", spec := "fnLoop", recurses := true, apart := false, narrowed := true }
def FnLoopUptoSaid : Prop := fnLoopUptoRow.holds Try.pinned (OpenSpec.upto fnLoopSpec)

/-- 'laws.FnLoopBack', WHERE WHAT IT READS IS OF BULK AT MOST 1048576: true; the input reads as it did. -/
def fnLoopBackUptoRow : OpenClaim := { program := "ytimghdffmdcheaa", sum := "efc758257e878a534861ee88051f7e1bab1ad2411efa5cea11d28d5558278e16", func := "loop.example/levellingnet/laws.FnLoopBack", spec := "fnLoopBack", recurses := true, apart := false, narrowed := true }
def FnLoopBackUptoSaid : Prop := fnLoopBackUptoRow.holds Try.pinned (OpenSpec.upto fnLoopBackSpec)

/-- 'laws.FnLoopOf', WHERE WHAT IT READS IS OF BULK AT MOST 1048576: true; the input reads as it did. -/
def fnLoopOfUptoRow : OpenClaim := { program := "ytimghdffmdcheaa", sum := "efc758257e878a534861ee88051f7e1bab1ad2411efa5cea11d28d5558278e16", func := "loop.example/levellingnet/laws.FnLoopOf", spec := "fnLoopOf", recurses := true, apart := false, narrowed := true }
def FnLoopOfUptoSaid : Prop := fnLoopOfUptoRow.holds Try.pinned (OpenSpec.upto fnLoopOfSpec)

/-- 'laws.FnLoopErrors', WHERE WHAT IT READS IS OF BULK AT MOST 1048576: true; the input reads as it did. -/
def fnLoopErrorsUptoRow : OpenClaim := { program := "ytimghdffmdcheaa", sum := "efc758257e878a534861ee88051f7e1bab1ad2411efa5cea11d28d5558278e16", func := "loop.example/levellingnet/laws.FnLoopErrors", spec := "fnLoopErrors", recurses := true, apart := false, narrowed := true }
def FnLoopErrorsUptoSaid : Prop := fnLoopErrorsUptoRow.holds Try.pinned (OpenSpec.upto fnLoopErrorsSpec)

/-- 'laws.FnLoopCloses', WHERE WHAT IT READS IS OF BULK AT MOST 1048576: true; the input reads as it did. -/
def fnLoopClosesUptoRow : OpenClaim := { program := "ytimghdffmdcheaa", sum := "efc758257e878a534861ee88051f7e1bab1ad2411efa5cea11d28d5558278e16", func := "loop.example/levellingnet/laws.FnLoopCloses", spec := "fnLoopCloses", recurses := true, apart := false, narrowed := true }
def FnLoopClosesUptoSaid : Prop := fnLoopClosesUptoRow.holds Try.pinned (OpenSpec.upto fnLoopClosesSpec)

/-- 'laws.FnLoopErrorsShift', WHERE WHAT IT READS IS OF BULK AT MOST 1048576: true; the input reads as it did. -/
def fnLoopErrorsShiftUptoRow : OpenClaim := { program := "ytimghdffmdcheaa", sum := "efc758257e878a534861ee88051f7e1bab1ad2411efa5cea11d28d5558278e16", func := "loop.example/levellingnet/laws.FnLoopErrorsShift", spec := "fnLoopErrorsShift", recurses := true, apart := false, narrowed := true }
def FnLoopErrorsShiftUptoSaid : Prop := fnLoopErrorsShiftUptoRow.holds Try.pinned (OpenSpec.upto fnLoopErrorsShiftSpec)

/-- 'laws.FnExactLoopIs', WHERE WHAT IT READS IS OF BULK AT MOST 1048576: true; the input reads as it did. -/
def fnExactLoopIsUptoRow : OpenClaim := { program := "ytimghdffmdcheaa", sum := "efc758257e878a534861ee88051f7e1bab1ad2411efa5cea11d28d5558278e16", func := "loop.example/levellingnet/laws.FnExactLoopIs", spec := "fnExactLoopIs", apart := false, narrowed := true }
def FnExactLoopIsUptoSaid : Prop := fnExactLoopIsUptoRow.holds Try.pinned (OpenSpec.upto fnExactLoopIsSpec)

/-- 'laws.FnExactLoopError', WHERE WHAT IT READS IS OF BULK AT MOST 1048576: true; the input reads as it did. -/
def fnExactLoopErrorUptoRow : OpenClaim := { program := "ytimghdffmdcheaa", sum := "efc758257e878a534861ee88051f7e1bab1ad2411efa5cea11d28d5558278e16", func := "loop.example/levellingnet/laws.FnExactLoopError", spec := "fnExactLoopError", apart := false, narrowed := true }
def FnExactLoopErrorUptoSaid : Prop := fnExactLoopErrorUptoRow.holds Try.pinned (OpenSpec.upto fnExactLoopErrorSpec)

/-- 'laws.FnExactLoopOf', WHERE WHAT IT READS IS OF BULK AT MOST 1048576: true; the input reads as it did. -/
def fnExactLoopOfUptoRow : OpenClaim := { program := "ytimghdffmdcheaa", sum := "efc758257e878a534861ee88051f7e1bab1ad2411efa5cea11d28d5558278e16", func := "loop.example/levellingnet/laws.FnExactLoopOf", spec := "fnExactLoopOf", recurses := true, apart := false, narrowed := true }
def FnExactLoopOfUptoSaid : Prop := fnExactLoopOfUptoRow.holds Try.pinned (OpenSpec.upto fnExactLoopOfSpec)

/-- 'laws.FnExactLoopErrors', WHERE WHAT IT READS IS OF BULK AT MOST 1048576: true; the input reads as it did. -/
def fnExactLoopErrorsUptoRow : OpenClaim := { program := "ytimghdffmdcheaa", sum := "efc758257e878a534861ee88051f7e1bab1ad2411efa5cea11d28d5558278e16", func := "loop.example/levellingnet/laws.FnExactLoopErrors", spec := "fnExactLoopErrors", recurses := true, apart := false, narrowed := true }
def FnExactLoopErrorsUptoSaid : Prop := fnExactLoopErrorsUptoRow.holds Try.pinned (OpenSpec.upto fnExactLoopErrorsSpec)

/-- 'laws.FnExactLoopCloses', WHERE WHAT IT READS IS OF BULK AT MOST 1048576: true; the input reads as it did. -/
def fnExactLoopClosesUptoRow : OpenClaim := { program := "ytimghdffmdcheaa", sum := "efc758257e878a534861ee88051f7e1bab1ad2411efa5cea11d28d5558278e16", func := "loop.example/levellingnet/laws.FnExactLoopCloses", spec := "fnExactLoopCloses", recurses := true, apart := false, narrowed := true }
def FnExactLoopClosesUptoSaid : Prop := fnExactLoopClosesUptoRow.holds Try.pinned (OpenSpec.upto fnExactLoopClosesSpec)

/-- 'laws.FnExactLoopBack', WHERE WHAT IT READS IS OF BULK AT MOST 1048576: true; the input reads as it did. -/
def fnExactLoopBackUptoRow : OpenClaim := { program := "ytimghdffmdcheaa", sum := "efc758257e878a534861ee88051f7e1bab1ad2411efa5cea11d28d5558278e16", func := "loop.example/levellingnet/laws.FnExactLoopBack", spec := "fnExactLoopBack", apart := false, narrowed := true }
def FnExactLoopBackUptoSaid : Prop := fnExactLoopBackUptoRow.holds Try.pinned (OpenSpec.upto fnExactLoopBackSpec)

end Rows
end Go.Proofs.Ytimghdffmdcheaa
