/-
  No cell of these rows narrows 'for every input' (looked for: loops, veiled, ifaces, maps, wideKeys, modest, calm, conditions, laid).
  DERIVED. THE GIVEN ROWS OF THIS SEAT. 11 by the template 'for every input the law returns true; each argument reads behind the call as it read before'; 0 by the template 'total and deterministic' (their statements: YthpfhbogpnhgmaaTotals.lean).
  GIVEN WITH THE SEED: the statements are not yours to turn. If you find one false, say at which input.
  Laid BY PROGRAM, IN A SANDBOX (cutbox-rows.mjs): the forced cells as the released guide's own fill.sh prints them over the translation b45e2c9cb7e2c988… (all of the seat's roots in one cut). By AI agents, Wed Nov 11 2026. No macro, syntax, notation, axiom, sorry.
-/
import Derived.Test.YthpfhbogpnhgmaaChecked
import GoSem.Claim
import GoSem.ClaimJoined
import GoSem.ClaimMapViews
import Derived.JoinedTies
import Derived.KernelRfl
namespace Go.Proofs.Ythpfhbogpnhgmaa
/- THE CELL 'sum', in the pinned program and in every row, IS THE sha256 OF THE DUMP (.gsa) THAT YthpfhbogpnhgmaaProg.lean LOADS. Nothing in Lean hashes anything: it is a label: what it is worth is what the hold of that sum in a sandbox is worth. -/
noncomputable def Try.pinned : Pinned := { name := "ythpfhbogpnhgmaa", sum := "b45e2c9cb7e2c9882f1d9202cd4bb7e9330cf3bbca4cba9249c481b5ab5b8b79", checked := Try.checked }
namespace Rows
def none {H : Type} : Left H := { results := [], args := [] }

/-- 'laws.FnDetTurn': WHATEVER THE INPUT: true; the input reads as it did. -/
def fnDetTurnSpec : ChangeSpec := { name := "fnDetTurn", fn := fun _ => fun
  | [d] => { results := [.lit (.bool true)], args := [d] }
  | _ => none }
def fnDetTurnRow : OpenClaim := { program := "ythpfhbogpnhgmaa", sum := "b45e2c9cb7e2c9882f1d9202cd4bb7e9330cf3bbca4cba9249c481b5ab5b8b79", func := "loop.example/levellingnet/laws.FnDetTurn", spec := "fnDetTurn", unfollowed := true, recurses := true, apart := false }
def FnDetTurnSaid : Prop := fnDetTurnRow.holds Try.pinned (OpenSpec.ofChange fnDetTurnSpec)

/-- ITS FALSE NEIGHBOUR: 'it returns false'. Refute it at one input. -/
def fnDetTurnWrong : ChangeSpec := { name := "fnDetTurn", fn := fun _ => fun
  | [d] => { results := [.lit (.bool false)], args := [d] }
  | _ => none }
def FnDetTurnWrongFalsely : Prop := fnDetTurnRow.holds Try.pinned (OpenSpec.ofChange fnDetTurnWrong)

/-- 'laws.FnDetAdd': WHATEVER THE INPUT: true; the input reads as it did. -/
def fnDetAddSpec : ChangeSpec := { name := "fnDetAdd", fn := fun _ => fun
  | [d1, d2] => { results := [.lit (.bool true)], args := [d1, d2] }
  | _ => none }
def fnDetAddRow : OpenClaim := { program := "ythpfhbogpnhgmaa", sum := "b45e2c9cb7e2c9882f1d9202cd4bb7e9330cf3bbca4cba9249c481b5ab5b8b79", func := "loop.example/levellingnet/laws.FnDetAdd", spec := "fnDetAdd", unfollowed := true, recurses := true, apart := false }
def FnDetAddSaid : Prop := fnDetAddRow.holds Try.pinned (OpenSpec.ofChange fnDetAddSpec)

/-- ITS FALSE NEIGHBOUR: 'it returns false'. Refute it at one input. -/
def fnDetAddWrong : ChangeSpec := { name := "fnDetAdd", fn := fun _ => fun
  | [d1, d2] => { results := [.lit (.bool false)], args := [d1, d2] }
  | _ => none }
def FnDetAddWrongFalsely : Prop := fnDetAddRow.holds Try.pinned (OpenSpec.ofChange fnDetAddWrong)

/-- 'laws.FnDetTimes': WHATEVER THE INPUT: true; the input reads as it did. -/
def fnDetTimesSpec : ChangeSpec := { name := "fnDetTimes", fn := fun _ => fun
  | [d1, d2] => { results := [.lit (.bool true)], args := [d1, d2] }
  | _ => none }
def fnDetTimesRow : OpenClaim := { program := "ythpfhbogpnhgmaa", sum := "b45e2c9cb7e2c9882f1d9202cd4bb7e9330cf3bbca4cba9249c481b5ab5b8b79", func := "loop.example/levellingnet/laws.FnDetTimes", spec := "fnDetTimes", unfollowed := true, recurses := true, apart := false }
def FnDetTimesSaid : Prop := fnDetTimesRow.holds Try.pinned (OpenSpec.ofChange fnDetTimesSpec)

/-- ITS FALSE NEIGHBOUR: 'it returns false'. Refute it at one input. -/
def fnDetTimesWrong : ChangeSpec := { name := "fnDetTimes", fn := fun _ => fun
  | [d1, d2] => { results := [.lit (.bool false)], args := [d1, d2] }
  | _ => none }
def FnDetTimesWrongFalsely : Prop := fnDetTimesRow.holds Try.pinned (OpenSpec.ofChange fnDetTimesWrong)

/-- 'laws.FnApplySum': WHATEVER THE INPUT: true; the input reads as it did. -/
def fnApplySumSpec : ChangeSpec := { name := "fnApplySum", fn := fun _ => fun
  | [d1, d2] => { results := [.lit (.bool true)], args := [d1, d2] }
  | _ => none }
def fnApplySumRow : OpenClaim := { program := "ythpfhbogpnhgmaa", sum := "b45e2c9cb7e2c9882f1d9202cd4bb7e9330cf3bbca4cba9249c481b5ab5b8b79", func := "loop.example/levellingnet/laws.FnApplySum", spec := "fnApplySum", apart := false }
def FnApplySumSaid : Prop := fnApplySumRow.holds Try.pinned (OpenSpec.ofChange fnApplySumSpec)

/-- ITS FALSE NEIGHBOUR: 'it returns false'. Refute it at one input. -/
def fnApplySumWrong : ChangeSpec := { name := "fnApplySum", fn := fun _ => fun
  | [d1, d2] => { results := [.lit (.bool false)], args := [d1, d2] }
  | _ => none }
def FnApplySumWrongFalsely : Prop := fnApplySumRow.holds Try.pinned (OpenSpec.ofChange fnApplySumWrong)

/-- 'laws.FnSolve': WHATEVER THE INPUT: true; the input reads as it did. -/
def fnSolveSpec : ChangeSpec := { name := "fnSolve", fn := fun _ => fun
  | [d1, d2] => { results := [.lit (.bool true)], args := [d1, d2] }
  | _ => none }
def fnSolveRow : OpenClaim := { program := "ythpfhbogpnhgmaa", sum := "b45e2c9cb7e2c9882f1d9202cd4bb7e9330cf3bbca4cba9249c481b5ab5b8b79", func := "loop.example/levellingnet/laws.FnSolve", spec := "fnSolve", unfollowed := true, recurses := true, apart := false }
def FnSolveSaid : Prop := fnSolveRow.holds Try.pinned (OpenSpec.ofChange fnSolveSpec)

/-- ITS FALSE NEIGHBOUR: 'it returns false'. Refute it at one input. -/
def fnSolveWrong : ChangeSpec := { name := "fnSolve", fn := fun _ => fun
  | [d1, d2] => { results := [.lit (.bool false)], args := [d1, d2] }
  | _ => none }
def FnSolveWrongFalsely : Prop := fnSolveRow.holds Try.pinned (OpenSpec.ofChange fnSolveWrong)

/-- 'laws.FnExactMatValid': WHATEVER THE INPUT: true; the input reads as it did. -/
def fnExactMatValidSpec : ChangeSpec := { name := "fnExactMatValid", fn := fun _ => fun
  | [d] => { results := [.lit (.bool true)], args := [d] }
  | _ => none }
def fnExactMatValidRow : OpenClaim := { program := "ythpfhbogpnhgmaa", sum := "b45e2c9cb7e2c9882f1d9202cd4bb7e9330cf3bbca4cba9249c481b5ab5b8b79", func := "loop.example/levellingnet/laws.FnExactMatValid", spec := "fnExactMatValid", apart := false }
def FnExactMatValidSaid : Prop := fnExactMatValidRow.holds Try.pinned (OpenSpec.ofChange fnExactMatValidSpec)

/-- ITS FALSE NEIGHBOUR: 'it returns false'. Refute it at one input. -/
def fnExactMatValidWrong : ChangeSpec := { name := "fnExactMatValid", fn := fun _ => fun
  | [d] => { results := [.lit (.bool false)], args := [d] }
  | _ => none }
def FnExactMatValidWrongFalsely : Prop := fnExactMatValidRow.holds Try.pinned (OpenSpec.ofChange fnExactMatValidWrong)

/-- 'laws.FnExactMatDet': WHATEVER THE INPUT: true; the input reads as it did. -/
def fnExactMatDetSpec : ChangeSpec := { name := "fnExactMatDet", fn := fun _ => fun
  | [d] => { results := [.lit (.bool true)], args := [d] }
  | _ => none }
def fnExactMatDetRow : OpenClaim := { program := "ythpfhbogpnhgmaa", sum := "b45e2c9cb7e2c9882f1d9202cd4bb7e9330cf3bbca4cba9249c481b5ab5b8b79", func := "loop.example/levellingnet/laws.FnExactMatDet", spec := "fnExactMatDet", unfollowed := true, recurses := true, apart := false }
def FnExactMatDetSaid : Prop := fnExactMatDetRow.holds Try.pinned (OpenSpec.ofChange fnExactMatDetSpec)

/-- ITS FALSE NEIGHBOUR: 'it returns false'. Refute it at one input. -/
def fnExactMatDetWrong : ChangeSpec := { name := "fnExactMatDet", fn := fun _ => fun
  | [d] => { results := [.lit (.bool false)], args := [d] }
  | _ => none }
def FnExactMatDetWrongFalsely : Prop := fnExactMatDetRow.holds Try.pinned (OpenSpec.ofChange fnExactMatDetWrong)

/-- 'laws.FnExactMatTurn': WHATEVER THE INPUT: true; the input reads as it did. -/
def fnExactMatTurnSpec : ChangeSpec := { name := "fnExactMatTurn", fn := fun _ => fun
  | [d] => { results := [.lit (.bool true)], args := [d] }
  | _ => none }
def fnExactMatTurnRow : OpenClaim := { program := "ythpfhbogpnhgmaa", sum := "b45e2c9cb7e2c9882f1d9202cd4bb7e9330cf3bbca4cba9249c481b5ab5b8b79", func := "loop.example/levellingnet/laws.FnExactMatTurn", spec := "fnExactMatTurn", unfollowed := true, recurses := true, apart := false }
def FnExactMatTurnSaid : Prop := fnExactMatTurnRow.holds Try.pinned (OpenSpec.ofChange fnExactMatTurnSpec)

/-- ITS FALSE NEIGHBOUR: 'it returns false'. Refute it at one input. -/
def fnExactMatTurnWrong : ChangeSpec := { name := "fnExactMatTurn", fn := fun _ => fun
  | [d] => { results := [.lit (.bool false)], args := [d] }
  | _ => none }
def FnExactMatTurnWrongFalsely : Prop := fnExactMatTurnRow.holds Try.pinned (OpenSpec.ofChange fnExactMatTurnWrong)

/-- 'laws.FnExactMatTimes': WHATEVER THE INPUT: true; the input reads as it did. -/
def fnExactMatTimesSpec : ChangeSpec := { name := "fnExactMatTimes", fn := fun _ => fun
  | [d1, d2] => { results := [.lit (.bool true)], args := [d1, d2] }
  | _ => none }
def fnExactMatTimesRow : OpenClaim := { program := "ythpfhbogpnhgmaa", sum := "b45e2c9cb7e2c9882f1d9202cd4bb7e9330cf3bbca4cba9249c481b5ab5b8b79", func := "loop.example/levellingnet/laws.FnExactMatTimes", spec := "fnExactMatTimes", unfollowed := true, recurses := true, apart := false }
def FnExactMatTimesSaid : Prop := fnExactMatTimesRow.holds Try.pinned (OpenSpec.ofChange fnExactMatTimesSpec)

/-- ITS FALSE NEIGHBOUR: 'it returns false'. Refute it at one input. -/
def fnExactMatTimesWrong : ChangeSpec := { name := "fnExactMatTimes", fn := fun _ => fun
  | [d1, d2] => { results := [.lit (.bool false)], args := [d1, d2] }
  | _ => none }
def FnExactMatTimesWrongFalsely : Prop := fnExactMatTimesRow.holds Try.pinned (OpenSpec.ofChange fnExactMatTimesWrong)

/-- 'laws.FnExactMatApply': WHATEVER THE INPUT: true; the input reads as it did. -/
def fnExactMatApplySpec : ChangeSpec := { name := "fnExactMatApply", fn := fun _ => fun
  | [d1, d2] => { results := [.lit (.bool true)], args := [d1, d2] }
  | _ => none }
def fnExactMatApplyRow : OpenClaim := { program := "ythpfhbogpnhgmaa", sum := "b45e2c9cb7e2c9882f1d9202cd4bb7e9330cf3bbca4cba9249c481b5ab5b8b79", func := "loop.example/levellingnet/laws.FnExactMatApply", spec := "fnExactMatApply", apart := false }
def FnExactMatApplySaid : Prop := fnExactMatApplyRow.holds Try.pinned (OpenSpec.ofChange fnExactMatApplySpec)

/-- ITS FALSE NEIGHBOUR: 'it returns false'. Refute it at one input. -/
def fnExactMatApplyWrong : ChangeSpec := { name := "fnExactMatApply", fn := fun _ => fun
  | [d1, d2] => { results := [.lit (.bool false)], args := [d1, d2] }
  | _ => none }
def FnExactMatApplyWrongFalsely : Prop := fnExactMatApplyRow.holds Try.pinned (OpenSpec.ofChange fnExactMatApplyWrong)

/-- 'laws.FnExactMatSolve': WHATEVER THE INPUT: true; the input reads as it did. -/
def fnExactMatSolveSpec : ChangeSpec := { name := "fnExactMatSolve", fn := fun _ => fun
  | [d1, d2] => { results := [.lit (.bool true)], args := [d1, d2] }
  | _ => none }
def fnExactMatSolveRow : OpenClaim := { program := "ythpfhbogpnhgmaa", sum := "b45e2c9cb7e2c9882f1d9202cd4bb7e9330cf3bbca4cba9249c481b5ab5b8b79", func := "loop.example/levellingnet/laws.FnExactMatSolve", spec := "fnExactMatSolve", unfollowed := true, recurses := true, apart := false }
def FnExactMatSolveSaid : Prop := fnExactMatSolveRow.holds Try.pinned (OpenSpec.ofChange fnExactMatSolveSpec)

/-- ITS FALSE NEIGHBOUR: 'it returns false'. Refute it at one input. -/
def fnExactMatSolveWrong : ChangeSpec := { name := "fnExactMatSolve", fn := fun _ => fun
  | [d1, d2] => { results := [.lit (.bool false)], args := [d1, d2] }
  | _ => none }
def FnExactMatSolveWrongFalsely : Prop := fnExactMatSolveRow.holds Try.pinned (OpenSpec.ofChange fnExactMatSolveWrong)

/- THE SECOND FORM. 'bulk': how many values and letters a reading holds, each counted each time it is reached (what is shared counts as often as it is met; a slice's spare places count too). A statement '..UptoSaid' is the law's where the arguments, and the package variables that the reading takes, are together of bulk at most 1048576: NARROWER than '..Said'. Prove '..Said' where nothing that the law and all that it calls make is longer than what came in: it says more and counts as full. Else prove '..UptoSaid'. A law counts once. -/
mutual
def uptoBulk {H : Type} : DataW H → Nat
  | .lit (.string bytes) => bytes.length + 1
  | .lit _ => 1
  | .nil => 1
  | .ptr d => uptoBulk d + 1
  | .slice elems spare => uptoBulkAll elems + uptoBulkAll spare + 1
  | .agg parts => uptoBulkAll parts + 1
  | .iface _ d => uptoBulk d + 1
  | .map entries => uptoBulkEntries entries + 1
  | .held _ => 1
def uptoBulkAll {H : Type} : List (DataW H) → Nat
  | [] => 0
  | d :: r => uptoBulk d + uptoBulkAll r
def uptoBulkEntries {H : Type} : List (Lit × DataW H) → Nat
  | [] => 0
  | x :: r => uptoBulkEntry x + uptoBulkEntries r
def uptoBulkEntry {H : Type} : Lit × DataW H → Nat
  | (.string bytes, d) => bytes.length + uptoBulk d + 1
  | (_, d) => uptoBulk d + 1
 end
def uptoSmall : (H : Type) → List (DataW H) → Bool := fun _ ds => decide (uptoBulkAll ds ≤ 1048576)
def OpenSpec.upto (s : _root_.Go.ChangeSpec) : _root_.Go.OpenSpec := { _root_.Go.OpenSpec.ofChange s with cond := some uptoSmall }

/-- 'laws.FnDetTurn', WHERE WHAT IT READS IS OF BULK AT MOST 1048576: true; the input reads as it did. -/
def fnDetTurnUptoRow : OpenClaim := { program := "ythpfhbogpnhgmaa", sum := "b45e2c9cb7e2c9882f1d9202cd4bb7e9330cf3bbca4cba9249c481b5ab5b8b79", func := "loop.example/levellingnet/laws.FnDetTurn", spec := "fnDetTurn", unfollowed := true, recurses := true, apart := false, narrowed := true }
def FnDetTurnUptoSaid : Prop := fnDetTurnUptoRow.holds Try.pinned (OpenSpec.upto fnDetTurnSpec)

/-- 'laws.FnDetAdd', WHERE WHAT IT READS IS OF BULK AT MOST 1048576: true; the input reads as it did. -/
def fnDetAddUptoRow : OpenClaim := { program := "ythpfhbogpnhgmaa", sum := "b45e2c9cb7e2c9882f1d9202cd4bb7e9330cf3bbca4cba9249c481b5ab5b8b79", func := "loop.example/levellingnet/laws.FnDetAdd", spec := "fnDetAdd", unfollowed := true, recurses := true, apart := false, narrowed := true }
def FnDetAddUptoSaid : Prop := fnDetAddUptoRow.holds Try.pinned (OpenSpec.upto fnDetAddSpec)

/-- 'laws.FnDetTimes', WHERE WHAT IT READS IS OF BULK AT MOST 1048576: true; the input reads as it did. -/
def fnDetTimesUptoRow : OpenClaim := { program := "ythpfhbogpnhgmaa", sum := "b45e2c9cb7e2c9882f1d9202cd4bb7e9330cf3bbca4cba9249c481b5ab5b8b79", func := "loop.example/levellingnet/laws.FnDetTimes", spec := "fnDetTimes", unfollowed := true, recurses := true, apart := false, narrowed := true }
def FnDetTimesUptoSaid : Prop := fnDetTimesUptoRow.holds Try.pinned (OpenSpec.upto fnDetTimesSpec)

/-- 'laws.FnApplySum', WHERE WHAT IT READS IS OF BULK AT MOST 1048576: true; the input reads as it did. -/
def fnApplySumUptoRow : OpenClaim := { program := "ythpfhbogpnhgmaa", sum := "b45e2c9cb7e2c9882f1d9202cd4bb7e9330cf3bbca4cba9249c481b5ab5b8b79", func := "loop.example/levellingnet/laws.FnApplySum", spec := "fnApplySum", apart := false, narrowed := true }
def FnApplySumUptoSaid : Prop := fnApplySumUptoRow.holds Try.pinned (OpenSpec.upto fnApplySumSpec)

/-- 'laws.FnSolve', WHERE WHAT IT READS IS OF BULK AT MOST 1048576: true; the input reads as it did. -/
def fnSolveUptoRow : OpenClaim := { program := "ythpfhbogpnhgmaa", sum := "b45e2c9cb7e2c9882f1d9202cd4bb7e9330cf3bbca4cba9249c481b5ab5b8b79", func := "loop.example/levellingnet/laws.FnSolve", spec := "fnSolve", unfollowed := true, recurses := true, apart := false, narrowed := true }
def FnSolveUptoSaid : Prop := fnSolveUptoRow.holds Try.pinned (OpenSpec.upto fnSolveSpec)

/-- 'laws.FnExactMatValid', WHERE WHAT IT READS IS OF BULK AT MOST 1048576: true; the input reads as it did. -/
def fnExactMatValidUptoRow : OpenClaim := { program := "ythpfhbogpnhgmaa", sum := "b45e2c9cb7e2c9882f1d9202cd4bb7e9330cf3bbca4cba9249c481b5ab5b8b79", func := "loop.example/levellingnet/laws.FnExactMatValid", spec := "fnExactMatValid", apart := false, narrowed := true }
def FnExactMatValidUptoSaid : Prop := fnExactMatValidUptoRow.holds Try.pinned (OpenSpec.upto fnExactMatValidSpec)

/-- 'laws.FnExactMatDet', WHERE WHAT IT READS IS OF BULK AT MOST 1048576: true; the input reads as it did. -/
def fnExactMatDetUptoRow : OpenClaim := { program := "ythpfhbogpnhgmaa", sum := "b45e2c9cb7e2c9882f1d9202cd4bb7e9330cf3bbca4cba9249c481b5ab5b8b79", func := "loop.example/levellingnet/laws.FnExactMatDet", spec := "fnExactMatDet", unfollowed := true, recurses := true, apart := false, narrowed := true }
def FnExactMatDetUptoSaid : Prop := fnExactMatDetUptoRow.holds Try.pinned (OpenSpec.upto fnExactMatDetSpec)

/-- 'laws.FnExactMatTurn', WHERE WHAT IT READS IS OF BULK AT MOST 1048576: true; the input reads as it did. -/
def fnExactMatTurnUptoRow : OpenClaim := { program := "ythpfhbogpnhgmaa", sum := "b45e2c9cb7e2c9882f1d9202cd4bb7e9330cf3bbca4cba9249c481b5ab5b8b79", func := "loop.example/levellingnet/laws.FnExactMatTurn", spec := "fnExactMatTurn", unfollowed := true, recurses := true, apart := false, narrowed := true }
def FnExactMatTurnUptoSaid : Prop := fnExactMatTurnUptoRow.holds Try.pinned (OpenSpec.upto fnExactMatTurnSpec)

/-- 'laws.FnExactMatTimes', WHERE WHAT IT READS IS OF BULK AT MOST 1048576: true; the input reads as it did. -/
def fnExactMatTimesUptoRow : OpenClaim := { program := "ythpfhbogpnhgmaa", sum := "b45e2c9cb7e2c9882f1d9202cd4bb7e9330cf3bbca4cba9249c481b5ab5b8b79", func := "loop.example/levellingnet/laws.FnExactMatTimes", spec := "fnExactMatTimes", unfollowed := true, recurses := true, apart := false, narrowed := true }
def FnExactMatTimesUptoSaid : Prop := fnExactMatTimesUptoRow.holds Try.pinned (OpenSpec.upto fnExactMatTimesSpec)

/-- 'laws.FnExactMatApply', WHERE WHAT IT READS IS OF BULK AT MOST 1048576: true; the input reads as it did. -/
def fnExactMatApplyUptoRow : OpenClaim := { program := "ythpfhbogpnhgmaa", sum := "b45e2c9cb7e2c9882f1d9202cd4bb7e9330cf3bbca4cba9249c481b5ab5b8b79", func := "loop.example/levellingnet/laws.FnExactMatApply", spec := "fnExactMatApply", apart := false, narrowed := true }
def FnExactMatApplyUptoSaid : Prop := fnExactMatApplyUptoRow.holds Try.pinned (OpenSpec.upto fnExactMatApplySpec)

/-- 'laws.FnExactMatSolve', WHERE WHAT IT READS IS OF BULK AT MOST 1048576: true; the input reads as it did. -/
def fnExactMatSolveUptoRow : OpenClaim := { program := "ythpfhbogpnhgmaa", sum := "b45e2c9cb7e2c9882f1d9202cd4bb7e9330cf3bbca4cba9249c481b5ab5b8b79", func := "loop.example/levellingnet/laws.FnExactMatSolve", spec := "fnExactMatSolve", unfollowed := true, recurses := true, apart := false, narrowed := true }
def FnExactMatSolveUptoSaid : Prop := fnExactMatSolveUptoRow.holds Try.pinned (OpenSpec.upto fnExactMatSolveSpec)

end Rows
end Go.Proofs.Ythpfhbogpnhgmaa
