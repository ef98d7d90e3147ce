/-
  No cell of these rows narrows 'for every input' (looked for: loops, veiled, ifaces, maps, wideKeys, modest, calm, conditions, laid).
  DERIVED. THE GIVEN ROWS OF THIS SEAT. 3 by the template 'for every input the law returns true; each argument reads behind the call as it read before'; 0 by the template 'total and deterministic' (their statements: YtddmbjobibljaaaTotals.lean).
  GIVEN WITH THE SEED: the statements are not yours to turn. If you find one false, say at which input.
  Laid BY PROGRAM, IN A SANDBOX (cutbox-rows.mjs): the forced cells as the released guide's own fill.sh prints them over the translation 6e91c9f0fd8ea824… (all of the seat's roots in one cut). By AI agents, Wed Nov 11 2026. No macro, syntax, notation, axiom, sorry.
-/
import Derived.Test.YtddmbjobibljaaaChecked
import GoSem.Claim
import GoSem.ClaimJoined
import GoSem.ClaimMapViews
import Derived.JoinedTies
import Derived.KernelRfl
namespace Go.Proofs.Ytddmbjobibljaaa
/- THE CELL 'sum', in the pinned program and in every row, IS THE sha256 OF THE DUMP (.gsa) THAT YtddmbjobibljaaaProg.lean LOADS. Nothing in Lean hashes anything: it is a label: what it is worth is what the hold of that sum in a sandbox is worth. -/
noncomputable def Try.pinned : Pinned := { name := "ytddmbjobibljaaa", sum := "6e91c9f0fd8ea824286ddaea66cf24736b4edf8b64a8e215ea93565b6d104572", checked := Try.checked }
namespace Rows
def none {H : Type} : Left H := { results := [], args := [] }

/-- 'laws.FnExactAdjustTry': WHATEVER THE INPUT: true; the input reads as it did. -/
def fnExactAdjustTrySpec : ChangeSpec := { name := "fnExactAdjustTry", fn := fun _ => fun
  | [d1, d2, d3] => { results := [.lit (.bool true)], args := [d1, d2, d3] }
  | _ => none }
def fnExactAdjustTryRow : OpenClaim := { program := "ytddmbjobibljaaa", sum := "6e91c9f0fd8ea824286ddaea66cf24736b4edf8b64a8e215ea93565b6d104572", func := "loop.example/levellingnet/laws.FnExactAdjustTry", spec := "fnExactAdjustTry", apart := false }
def FnExactAdjustTrySaid : Prop := fnExactAdjustTryRow.holds Try.pinned (OpenSpec.ofChange fnExactAdjustTrySpec)

/-- ITS FALSE NEIGHBOUR: 'it returns false'. Refute it at one input. -/
def fnExactAdjustTryWrong : ChangeSpec := { name := "fnExactAdjustTry", fn := fun _ => fun
  | [d1, d2, d3] => { results := [.lit (.bool false)], args := [d1, d2, d3] }
  | _ => none }
def FnExactAdjustTryWrongFalsely : Prop := fnExactAdjustTryRow.holds Try.pinned (OpenSpec.ofChange fnExactAdjustTryWrong)

/-- 'laws.FnSolve': WHATEVER THE INPUT: true; the input reads as it did. -/
def fnSolveSpec : ChangeSpec := { name := "fnSolve", fn := fun _ => fun
  | [d1, d2] => { results := [.lit (.bool true)], args := [d1, d2] }
  | _ => none }
def fnSolveRow : OpenClaim := { program := "ytddmbjobibljaaa", sum := "6e91c9f0fd8ea824286ddaea66cf24736b4edf8b64a8e215ea93565b6d104572", func := "loop.example/levellingnet/laws.FnSolve", spec := "fnSolve", unfollowed := true, recurses := true, apart := false }
def FnSolveSaid : Prop := fnSolveRow.holds Try.pinned (OpenSpec.ofChange fnSolveSpec)

/-- ITS FALSE NEIGHBOUR: 'it returns false'. Refute it at one input. -/
def fnSolveWrong : ChangeSpec := { name := "fnSolve", fn := fun _ => fun
  | [d1, d2] => { results := [.lit (.bool false)], args := [d1, d2] }
  | _ => none }
def FnSolveWrongFalsely : Prop := fnSolveRow.holds Try.pinned (OpenSpec.ofChange fnSolveWrong)

/-- 'laws.FnExactMatSolve': WHATEVER THE INPUT: true; the input reads as it did. -/
def fnExactMatSolveSpec : ChangeSpec := { name := "fnExactMatSolve", fn := fun _ => fun
  | [d1, d2] => { results := [.lit (.bool true)], args := [d1, d2] }
  | _ => none }
def fnExactMatSolveRow : OpenClaim := { program := "ytddmbjobibljaaa", sum := "6e91c9f0fd8ea824286ddaea66cf24736b4edf8b64a8e215ea93565b6d104572", func := "loop.example/levellingnet/laws.FnExactMatSolve", spec := "fnExactMatSolve", unfollowed := true, recurses := true, apart := false }
def FnExactMatSolveSaid : Prop := fnExactMatSolveRow.holds Try.pinned (OpenSpec.ofChange fnExactMatSolveSpec)

/-- ITS FALSE NEIGHBOUR: 'it returns false'. Refute it at one input. -/
def fnExactMatSolveWrong : ChangeSpec := { name := "fnExactMatSolve", fn := fun _ => fun
  | [d1, d2] => { results := [.lit (.bool false)], args := [d1, d2] }
  | _ => none }
def FnExactMatSolveWrongFalsely : Prop := fnExactMatSolveRow.holds Try.pinned (OpenSpec.ofChange fnExactMatSolveWrong)

/- THE SECOND FORM. 'bulk': how many values and letters a reading holds, each counted each time it is reached (what is shared counts as often as it is met; a slice's spare places count too). A statement '..UptoSaid' is the law's where the arguments, and the package variables that the reading takes, are together of bulk at most 1048576: NARROWER than '..Said'. Prove '..Said' where nothing that the law and all that it calls make is longer than what came in: it says more and counts as full. Else prove '..UptoSaid'. A law counts once. -/
mutual
def uptoBulk {H : Type} : DataW H → Nat
  | .lit (.string bytes) => bytes.length + 1
  | .lit _ => 1
  | .nil => 1
  | .ptr d => uptoBulk d + 1
  | .slice elems spare => uptoBulkAll elems + uptoBulkAll spare + 1
  | .agg parts => uptoBulkAll parts + 1
  | .iface _ d => uptoBulk d + 1
  | .map entries => uptoBulkEntries entries + 1
  | .held _ => 1
def uptoBulkAll {H : Type} : List (DataW H) → Nat
  | [] => 0
  | d :: r => uptoBulk d + uptoBulkAll r
def uptoBulkEntries {H : Type} : List (Lit × DataW H) → Nat
  | [] => 0
  | x :: r => uptoBulkEntry x + uptoBulkEntries r
def uptoBulkEntry {H : Type} : Lit × DataW H → Nat
  | (.string bytes, d) => bytes.length + uptoBulk d + 1
  | (_, d) => uptoBulk d + 1
 end
def uptoSmall : (H : Type) → List (DataW H) → Bool := fun _ ds => decide (uptoBulkAll ds ≤ 1048576)
def OpenSpec.upto (s : _root_.Go.ChangeSpec) : _root_.Go.OpenSpec := { _root_.Go.OpenSpec.ofChange s with cond := some uptoSmall }

/-- 'laws.FnExactAdjustTry', WHERE WHAT IT READS IS OF BULK AT MOST 1048576: true; the input reads as it did. -/
def fnExactAdjustTryUptoRow : OpenClaim := { program := "ytddmbjobibljaaa", sum := "6e91c9f0fd8ea824286ddaea66cf24736b4edf8b64a8e215ea93565b6d104572", func := "loop.example/levellingnet/laws.FnExactAdjustTry", spec := "fnExactAdjustTry", apart := false, narrowed := true }
def FnExactAdjustTryUptoSaid : Prop := fnExactAdjustTryUptoRow.holds Try.pinned (OpenSpec.upto fnExactAdjustTrySpec)

/-- 'laws.FnSolve', WHERE WHAT IT READS IS OF BULK AT MOST 1048576: true; the input reads as it did. -/
def fnSolveUptoRow : OpenClaim := { program := "ytddmbjobibljaaa", sum := "6e91c9f0fd8ea824286ddaea66cf24736b4edf8b64a8e215ea93565b6d104572", func := "loop.example/levellingnet/laws.FnSolve", spec := "fnSolve", unfollowed := true, recurses := true, apart := false, narrowed := true }
def FnSolveUptoSaid : Prop := fnSolveUptoRow.holds Try.pinned (OpenSpec.upto fnSolveSpec)

/-- 'laws.FnExactMatSolve', WHERE WHAT IT READS IS OF BULK AT MOST 1048576: true; the input reads as it did. -/
def fnExactMatSolveUptoRow : OpenClaim := { program := "ytddmbjobibljaaa", sum := "6e91c9f0fd8ea824286ddaea66cf24736b4edf8b64a8e215ea93565b6d104572", func := "loop.example/levellingnet/laws.FnExactMatSolve", spec := "fnExactMatSolve", unfollowed := true, recurses := true, apart := false, narrowed := true }
def FnExactMatSolveUptoSaid : Prop := fnExactMatSolveUptoRow.holds Try.pinned (OpenSpec.upto fnExactMatSolveSpec)

end Rows
end Go.Proofs.Ytddmbjobibljaaa
