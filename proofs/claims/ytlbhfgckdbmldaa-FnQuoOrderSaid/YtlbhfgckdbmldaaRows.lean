/-
  No cell of these rows narrows 'for every input' (looked for: loops, veiled, ifaces, maps, wideKeys, modest, calm, conditions, laid).
  DERIVED. THE GIVEN ROWS OF THIS SEAT. 10 by the template 'for every input the law returns true; each argument reads behind the call as it read before'; 0 by the template 'total and deterministic' (their statements: YtlbhfgckdbmldaaTotals.lean).
  GIVEN WITH THE SEED: the statements are not yours to turn. If you find one false, say at which input.
  Laid BY PROGRAM, IN A SANDBOX (cutbox-rows.mjs): the forced cells as the released guide's own fill.sh prints them over the translation 8b08d138d99f96f4… (all of the seat's roots in one cut). By AI agents, Wed Nov 11 2026. No macro, syntax, notation, axiom, sorry.
-/
import Derived.Test.YtlbhfgckdbmldaaChecked
import GoSem.Claim
import GoSem.ClaimJoined
import GoSem.ClaimMapViews
import Derived.JoinedTies
import Derived.KernelRfl
namespace Go.Proofs.Ytlbhfgckdbmldaa
/- THE CELL 'sum', in the pinned program and in every row, IS THE sha256 OF THE DUMP (.gsa) THAT YtlbhfgckdbmldaaProg.lean LOADS. Nothing in Lean hashes anything: it is a label: what it is worth is what the hold of that sum in a sandbox is worth. -/
noncomputable def Try.pinned : Pinned := { name := "ytlbhfgckdbmldaa", sum := "8b08d138d99f96f4e28e15a70485eff2667278675a746ac8927672d46abdae7d", checked := Try.checked }
namespace Rows
def none {H : Type} : Left H := { results := [], args := [] }

/-- 'laws.FnQuoOf': WHATEVER THE INPUT: true; the input reads as it did. -/
def fnQuoOfSpec : ChangeSpec := { name := "fnQuoOf", fn := fun _ => fun
  | [d] => { results := [.lit (.bool true)], args := [d] }
  | _ => none }
def fnQuoOfRow : OpenClaim := { program := "ytlbhfgckdbmldaa", sum := "8b08d138d99f96f4e28e15a70485eff2667278675a746ac8927672d46abdae7d", func := "loop.example/levellingnet/laws.FnQuoOf", spec := "fnQuoOf", apart := false }
def FnQuoOfSaid : Prop := fnQuoOfRow.holds Try.pinned (OpenSpec.ofChange fnQuoOfSpec)

/-- ITS FALSE NEIGHBOUR: 'it returns false'. Refute it at one input. -/
def fnQuoOfWrong : ChangeSpec := { name := "fnQuoOf", fn := fun _ => fun
  | [d] => { results := [.lit (.bool false)], args := [d] }
  | _ => none }
def FnQuoOfWrongFalsely : Prop := fnQuoOfRow.holds Try.pinned (OpenSpec.ofChange fnQuoOfWrong)

/-- 'laws.FnQuoAdd': WHATEVER THE INPUT: true; the input reads as it did. -/
def fnQuoAddSpec : ChangeSpec := { name := "fnQuoAdd", fn := fun _ => fun
  | [d] => { results := [.lit (.bool true)], args := [d] }
  | _ => none }
def fnQuoAddRow : OpenClaim := { program := "ytlbhfgckdbmldaa", sum := "8b08d138d99f96f4e28e15a70485eff2667278675a746ac8927672d46abdae7d", func := "loop.example/levellingnet/laws.FnQuoAdd", spec := "fnQuoAdd", unfollowed := true, recurses := true, apart := false }
def FnQuoAddSaid : Prop := fnQuoAddRow.holds Try.pinned (OpenSpec.ofChange fnQuoAddSpec)

/-- ITS FALSE NEIGHBOUR: 'it returns false'. Refute it at one input. -/
def fnQuoAddWrong : ChangeSpec := { name := "fnQuoAdd", fn := fun _ => fun
  | [d] => { results := [.lit (.bool false)], args := [d] }
  | _ => none }
def FnQuoAddWrongFalsely : Prop := fnQuoAddRow.holds Try.pinned (OpenSpec.ofChange fnQuoAddWrong)

/-- 'laws.FnQuoTimes': WHATEVER THE INPUT: true; the input reads as it did. -/
def fnQuoTimesSpec : ChangeSpec := { name := "fnQuoTimes", fn := fun _ => fun
  | [d] => { results := [.lit (.bool true)], args := [d] }
  | _ => none }
def fnQuoTimesRow : OpenClaim := { program := "ytlbhfgckdbmldaa", sum := "8b08d138d99f96f4e28e15a70485eff2667278675a746ac8927672d46abdae7d", func := "loop.example/levellingnet/laws.FnQuoTimes", spec := "fnQuoTimes", unfollowed := true, recurses := true, apart := false }
def FnQuoTimesSaid : Prop := fnQuoTimesRow.holds Try.pinned (OpenSpec.ofChange fnQuoTimesSpec)

/-- ITS FALSE NEIGHBOUR: 'it returns false'. Refute it at one input. -/
def fnQuoTimesWrong : ChangeSpec := { name := "fnQuoTimes", fn := fun _ => fun
  | [d] => { results := [.lit (.bool false)], args := [d] }
  | _ => none }
def FnQuoTimesWrongFalsely : Prop := fnQuoTimesRow.holds Try.pinned (OpenSpec.ofChange fnQuoTimesWrong)

/-- 'laws.FnQuoOrder': WHATEVER THE INPUT: true; the input reads as it did. -/
def fnQuoOrderSpec : ChangeSpec := { name := "fnQuoOrder", fn := fun _ => fun
  | [d] => { results := [.lit (.bool true)], args := [d] }
  | _ => none }
def fnQuoOrderRow : OpenClaim := { program := "ytlbhfgckdbmldaa", sum := "8b08d138d99f96f4e28e15a70485eff2667278675a746ac8927672d46abdae7d", func := "loop.example/levellingnet/laws.FnQuoOrder", spec := "fnQuoOrder", unfollowed := true, recurses := true, apart := false }
def FnQuoOrderSaid : Prop := fnQuoOrderRow.holds Try.pinned (OpenSpec.ofChange fnQuoOrderSpec)

/-- ITS FALSE NEIGHBOUR: 'it returns false'. Refute it at one input. -/
def fnQuoOrderWrong : ChangeSpec := { name := "fnQuoOrder", fn := fun _ => fun
  | [d] => { results := [.lit (.bool false)], args := [d] }
  | _ => none }
def FnQuoOrderWrongFalsely : Prop := fnQuoOrderRow.holds Try.pinned (OpenSpec.ofChange fnQuoOrderWrong)

/-- 'laws.FnExactQuoValid': WHATEVER THE INPUT: true; the input reads as it did. -/
def fnExactQuoValidSpec : ChangeSpec := { name := "fnExactQuoValid", fn := fun _ => fun
  | [d] => { results := [.lit (.bool true)], args := [d] }
  | _ => none }
def fnExactQuoValidRow : OpenClaim := { program := "ytlbhfgckdbmldaa", sum := "8b08d138d99f96f4e28e15a70485eff2667278675a746ac8927672d46abdae7d", func := "loop.example/levellingnet/laws.FnExactQuoValid", spec := "fnExactQuoValid", apart := false }
def FnExactQuoValidSaid : Prop := fnExactQuoValidRow.holds Try.pinned (OpenSpec.ofChange fnExactQuoValidSpec)

/-- ITS FALSE NEIGHBOUR: 'it returns false'. Refute it at one input. -/
def fnExactQuoValidWrong : ChangeSpec := { name := "fnExactQuoValid", fn := fun _ => fun
  | [d] => { results := [.lit (.bool false)], args := [d] }
  | _ => none }
def FnExactQuoValidWrongFalsely : Prop := fnExactQuoValidRow.holds Try.pinned (OpenSpec.ofChange fnExactQuoValidWrong)

/-- 'laws.FnExactQuoOf': WHATEVER THE INPUT: true; the input reads as it did. -/
def fnExactQuoOfSpec : ChangeSpec := { name := "fnExactQuoOf", fn := fun _ => fun
  | [d1, d2] => { results := [.lit (.bool true)], args := [d1, d2] }
  | _ => none }
def fnExactQuoOfRow : OpenClaim := { program := "ytlbhfgckdbmldaa", sum := "8b08d138d99f96f4e28e15a70485eff2667278675a746ac8927672d46abdae7d", func := "loop.example/levellingnet/laws.FnExactQuoOf", spec := "fnExactQuoOf", apart := false }
def FnExactQuoOfSaid : Prop := fnExactQuoOfRow.holds Try.pinned (OpenSpec.ofChange fnExactQuoOfSpec)

/-- ITS FALSE NEIGHBOUR: 'it returns false'. Refute it at one input. -/
def fnExactQuoOfWrong : ChangeSpec := { name := "fnExactQuoOf", fn := fun _ => fun
  | [d1, d2] => { results := [.lit (.bool false)], args := [d1, d2] }
  | _ => none }
def FnExactQuoOfWrongFalsely : Prop := fnExactQuoOfRow.holds Try.pinned (OpenSpec.ofChange fnExactQuoOfWrong)

/-- 'laws.FnExactQuoAdd': WHATEVER THE INPUT: true; the input reads as it did. -/
def fnExactQuoAddSpec : ChangeSpec := { name := "fnExactQuoAdd", fn := fun _ => fun
  | [d1, d2] => { results := [.lit (.bool true)], args := [d1, d2] }
  | _ => none }
def fnExactQuoAddRow : OpenClaim := { program := "ytlbhfgckdbmldaa", sum := "8b08d138d99f96f4e28e15a70485eff2667278675a746ac8927672d46abdae7d", func := "loop.example/levellingnet/laws.FnExactQuoAdd", spec := "fnExactQuoAdd", unfollowed := true, recurses := true, apart := false }
def FnExactQuoAddSaid : Prop := fnExactQuoAddRow.holds Try.pinned (OpenSpec.ofChange fnExactQuoAddSpec)

/-- ITS FALSE NEIGHBOUR: 'it returns false'. Refute it at one input. -/
def fnExactQuoAddWrong : ChangeSpec := { name := "fnExactQuoAdd", fn := fun _ => fun
  | [d1, d2] => { results := [.lit (.bool false)], args := [d1, d2] }
  | _ => none }
def FnExactQuoAddWrongFalsely : Prop := fnExactQuoAddRow.holds Try.pinned (OpenSpec.ofChange fnExactQuoAddWrong)

/-- 'laws.FnExactQuoTake': WHATEVER THE INPUT: true; the input reads as it did. -/
def fnExactQuoTakeSpec : ChangeSpec := { name := "fnExactQuoTake", fn := fun _ => fun
  | [d1, d2] => { results := [.lit (.bool true)], args := [d1, d2] }
  | _ => none }
def fnExactQuoTakeRow : OpenClaim := { program := "ytlbhfgckdbmldaa", sum := "8b08d138d99f96f4e28e15a70485eff2667278675a746ac8927672d46abdae7d", func := "loop.example/levellingnet/laws.FnExactQuoTake", spec := "fnExactQuoTake", unfollowed := true, recurses := true, apart := false }
def FnExactQuoTakeSaid : Prop := fnExactQuoTakeRow.holds Try.pinned (OpenSpec.ofChange fnExactQuoTakeSpec)

/-- ITS FALSE NEIGHBOUR: 'it returns false'. Refute it at one input. -/
def fnExactQuoTakeWrong : ChangeSpec := { name := "fnExactQuoTake", fn := fun _ => fun
  | [d1, d2] => { results := [.lit (.bool false)], args := [d1, d2] }
  | _ => none }
def FnExactQuoTakeWrongFalsely : Prop := fnExactQuoTakeRow.holds Try.pinned (OpenSpec.ofChange fnExactQuoTakeWrong)

/-- 'laws.FnExactQuoTimes': WHATEVER THE INPUT: true; the input reads as it did. -/
def fnExactQuoTimesSpec : ChangeSpec := { name := "fnExactQuoTimes", fn := fun _ => fun
  | [d1, d2] => { results := [.lit (.bool true)], args := [d1, d2] }
  | _ => none }
def fnExactQuoTimesRow : OpenClaim := { program := "ytlbhfgckdbmldaa", sum := "8b08d138d99f96f4e28e15a70485eff2667278675a746ac8927672d46abdae7d", func := "loop.example/levellingnet/laws.FnExactQuoTimes", spec := "fnExactQuoTimes", unfollowed := true, recurses := true, apart := false }
def FnExactQuoTimesSaid : Prop := fnExactQuoTimesRow.holds Try.pinned (OpenSpec.ofChange fnExactQuoTimesSpec)

/-- ITS FALSE NEIGHBOUR: 'it returns false'. Refute it at one input. -/
def fnExactQuoTimesWrong : ChangeSpec := { name := "fnExactQuoTimes", fn := fun _ => fun
  | [d1, d2] => { results := [.lit (.bool false)], args := [d1, d2] }
  | _ => none }
def FnExactQuoTimesWrongFalsely : Prop := fnExactQuoTimesRow.holds Try.pinned (OpenSpec.ofChange fnExactQuoTimesWrong)

/-- 'laws.FnExactQuoOrder': WHATEVER THE INPUT: true; the input reads as it did. -/
def fnExactQuoOrderSpec : ChangeSpec := { name := "fnExactQuoOrder", fn := fun _ => fun
  | [d1, d2] => { results := [.lit (.bool true)], args := [d1, d2] }
  | _ => none }
def fnExactQuoOrderRow : OpenClaim := { program := "ytlbhfgckdbmldaa", sum := "8b08d138d99f96f4e28e15a70485eff2667278675a746ac8927672d46abdae7d", func := "loop.example/levellingnet/laws.FnExactQuoOrder", spec := "fnExactQuoOrder", unfollowed := true, recurses := true, apart := false }
def FnExactQuoOrderSaid : Prop := fnExactQuoOrderRow.holds Try.pinned (OpenSpec.ofChange fnExactQuoOrderSpec)

/-- ITS FALSE NEIGHBOUR: 'it returns false'. Refute it at one input. -/
def fnExactQuoOrderWrong : ChangeSpec := { name := "fnExactQuoOrder", fn := fun _ => fun
  | [d1, d2] => { results := [.lit (.bool false)], args := [d1, d2] }
  | _ => none }
def FnExactQuoOrderWrongFalsely : Prop := fnExactQuoOrderRow.holds Try.pinned (OpenSpec.ofChange fnExactQuoOrderWrong)

/- THE SECOND FORM. 'bulk': how many values and letters a reading holds, each counted each time it is reached (what is shared counts as often as it is met; a slice's spare places count too). A statement '..UptoSaid' is the law's where the arguments, and the package variables that the reading takes, are together of bulk at most 1048576: NARROWER than '..Said'. Prove '..Said' where nothing that the law and all that it calls make is longer than what came in: it says more and counts as full. Else prove '..UptoSaid'. A law counts once. -/
mutual
def uptoBulk {H : Type} : DataW H → Nat
  | .lit (.string bytes) => bytes.length + 1
  | .lit _ => 1
  | .nil => 1
  | .ptr d => uptoBulk d + 1
  | .slice elems spare => uptoBulkAll elems + uptoBulkAll spare + 1
  | .agg parts => uptoBulkAll parts + 1
  | .iface _ d => uptoBulk d + 1
  | .map entries => uptoBulkEntries entries + 1
  | .held _ => 1
def uptoBulkAll {H : Type} : List (DataW H) → Nat
  | [] => 0
  | d :: r => uptoBulk d + uptoBulkAll r
def uptoBulkEntries {H : Type} : List (Lit × DataW H) → Nat
  | [] => 0
  | x :: r => uptoBulkEntry x + uptoBulkEntries r
def uptoBulkEntry {H : Type} : Lit × DataW H → Nat
  | (.string bytes, d) => bytes.length + uptoBulk d + 1
  | (_, d) => uptoBulk d + 1
 end
def uptoSmall : (H : Type) → List (DataW H) → Bool := fun _ ds => decide (uptoBulkAll ds ≤ 1048576)
def OpenSpec.upto (s : _root_.Go.ChangeSpec) : _root_.Go.OpenSpec := { _root_.Go.OpenSpec.ofChange s with cond := some uptoSmall }

/-- 'laws.FnQuoOf', WHERE WHAT IT READS IS OF BULK AT MOST 1048576: true; the input reads as it did. -/
def fnQuoOfUptoRow : OpenClaim := { program := "ytlbhfgckdbmldaa", sum := "8b08d138d99f96f4e28e15a70485eff2667278675a746ac8927672d46abdae7d", func := "loop.example/levellingnet/laws.FnQuoOf", spec := "fnQuoOf", apart := false, narrowed := true }
def FnQuoOfUptoSaid : Prop := fnQuoOfUptoRow.holds Try.pinned (OpenSpec.upto fnQuoOfSpec)

/-- 'laws.FnQuoAdd', WHERE WHAT IT READS IS OF BULK AT MOST 1048576: true; the input reads as it did. -/
def fnQuoAddUptoRow : OpenClaim := { program := "ytlbhfgckdbmldaa", sum := "8b08d138d99f96f4e28e15a70485eff2667278675a746ac8927672d46abdae7d", func := "loop.example/levellingnet/laws.FnQuoAdd", spec := "fnQuoAdd", unfollowed := true, recurses := true, apart := false, narrowed := true }
def FnQuoAddUptoSaid : Prop := fnQuoAddUptoRow.holds Try.pinned (OpenSpec.upto fnQuoAddSpec)

/-- 'laws.FnQuoTimes', WHERE WHAT IT READS IS OF BULK AT MOST 1048576: true; the input reads as it did. -/
def fnQuoTimesUptoRow : OpenClaim := { program := "ytlbhfgckdbmldaa", sum := "8b08d138d99f96f4e28e15a70485eff2667278675a746ac8927672d46abdae7d", func := "loop.example/levellingnet/laws.FnQuoTimes", spec := "fnQuoTimes", unfollowed := true, recurses := true, apart := false, narrowed := true }
def FnQuoTimesUptoSaid : Prop := fnQuoTimesUptoRow.holds Try.pinned (OpenSpec.upto fnQuoTimesSpec)

/-- 'laws.FnQuoOrder', WHERE WHAT IT READS IS OF BULK AT MOST 1048576: true; the input reads as it did. -/
def fnQuoOrderUptoRow : OpenClaim := { program := "ytlbhfgckdbmldaa", sum := "8b08d138d99f96f4e28e15a70485eff2667278675a746ac8927672d46abdae7d", func := "loop.example/levellingnet/laws.FnQuoOrder", spec := "fnQuoOrder", unfollowed := true, recurses := true, apart := false, narrowed := true }
def FnQuoOrderUptoSaid : Prop := fnQuoOrderUptoRow.holds Try.pinned (OpenSpec.upto fnQuoOrderSpec)

/-- 'laws.FnExactQuoValid', WHERE WHAT IT READS IS OF BULK AT MOST 1048576: true; the input reads as it did. -/
def fnExactQuoValidUptoRow : OpenClaim := { program := "ytlbhfgckdbmldaa", sum := "8b08d138d99f96f4e28e15a70485eff2667278675a746ac8927672d46abdae7d", func := "loop.example/levellingnet/laws.FnExactQuoValid", spec := "fnExactQuoValid", apart := false, narrowed := true }
def FnExactQuoValidUptoSaid : Prop := fnExactQuoValidUptoRow.holds Try.pinned (OpenSpec.upto fnExactQuoValidSpec)

/-- 'laws.FnExactQuoOf', WHERE WHAT IT READS IS OF BULK AT MOST 1048576: true; the input reads as it did. -/
def fnExactQuoOfUptoRow : OpenClaim := { program := "ytlbhfgckdbmldaa", sum := "8b08d138d99f96f4e28e15a70485eff2667278675a746ac8927672d46abdae7d", func := "loop.example/levellingnet/laws.FnExactQuoOf", spec := "fnExactQuoOf", apart := false, narrowed := true }
def FnExactQuoOfUptoSaid : Prop := fnExactQuoOfUptoRow.holds Try.pinned (OpenSpec.upto fnExactQuoOfSpec)

/-- 'laws.FnExactQuoAdd', WHERE WHAT IT READS IS OF BULK AT MOST 1048576: true; the input reads as it did. -/
def fnExactQuoAddUptoRow : OpenClaim := { program := "ytlbhfgckdbmldaa", sum := "8b08d138d99f96f4e28e15a70485eff2667278675a746ac8927672d46abdae7d", func := "loop.example/levellingnet/laws.FnExactQuoAdd", spec := "fnExactQuoAdd", unfollowed := true, recurses := true, apart := false, narrowed := true }
def FnExactQuoAddUptoSaid : Prop := fnExactQuoAddUptoRow.holds Try.pinned (OpenSpec.upto fnExactQuoAddSpec)

/-- 'laws.FnExactQuoTake', WHERE WHAT IT READS IS OF BULK AT MOST 1048576: true; the input reads as it did. -/
def fnExactQuoTakeUptoRow : OpenClaim := { program := "ytlbhfgckdbmldaa", sum := "8b08d138d99f96f4e28e15a70485eff2667278675a746ac8927672d46abdae7d", func := "loop.example/levellingnet/laws.FnExactQuoTake", spec := "fnExactQuoTake", unfollowed := true, recurses := true, apart := false, narrowed := true }
def FnExactQuoTakeUptoSaid : Prop := fnExactQuoTakeUptoRow.holds Try.pinned (OpenSpec.upto fnExactQuoTakeSpec)

/-- 'laws.FnExactQuoTimes', WHERE WHAT IT READS IS OF BULK AT MOST 1048576: true; the input reads as it did. -/
def fnExactQuoTimesUptoRow : OpenClaim := { program := "ytlbhfgckdbmldaa", sum := "8b08d138d99f96f4e28e15a70485eff2667278675a746ac8927672d46abdae7d", func := "loop.example/levellingnet/laws.FnExactQuoTimes", spec := "fnExactQuoTimes", unfollowed := true, recurses := true, apart := false, narrowed := true }
def FnExactQuoTimesUptoSaid : Prop := fnExactQuoTimesUptoRow.holds Try.pinned (OpenSpec.upto fnExactQuoTimesSpec)

/-- 'laws.FnExactQuoOrder', WHERE WHAT IT READS IS OF BULK AT MOST 1048576: true; the input reads as it did. -/
def fnExactQuoOrderUptoRow : OpenClaim := { program := "ytlbhfgckdbmldaa", sum := "8b08d138d99f96f4e28e15a70485eff2667278675a746ac8927672d46abdae7d", func := "loop.example/levellingnet/laws.FnExactQuoOrder", spec := "fnExactQuoOrder", unfollowed := true, recurses := true, apart := false, narrowed := true }
def FnExactQuoOrderUptoSaid : Prop := fnExactQuoOrderUptoRow.holds Try.pinned (OpenSpec.upto fnExactQuoOrderSpec)

end Rows
end Go.Proofs.Ytlbhfgckdbmldaa
