/-
  What the two programs' checks of a number and of a run answer.
-/
import Derived.Test.YthpfhbogpnhgmaaNMath
import Derived.Test.YthpfhbogpnhgmaaRegB
namespace Go.Proofs.Ythpfhbogpnhgmaa
open Go.RowKit
set_option linter.unusedVariables false

theorem nWithin (n m : Int) (b : Bool) (w : World) (hm : 0 ≤ m) (hm' : m ≤ 4000000000000000000) (h : decide (-m ≤ n ∧ n ≤ m) = b) :
    Calls Try.prog 64 #[.int .i64 n, .int .i64 m] w fun e w' => e = .returned (.bool b) ∧ w = w' := by
  subst h
  by_cases h1 : -m ≤ n <;> by_cases h2 : n ≤ m <;>
  · go_enter Try.func64, Try.ntmps64
    go_wp2_with fail
    go_ret
    simp [h1, h2]
theorem nIn (n l h : Int) (b : Bool) (w : World) (hb : decide (l ≤ n ∧ n ≤ h) = b) :
    Calls Try.prog 51 #[.int .i64 n, .int .i64 l, .int .i64 h] w fun e w' => e = .returned (.bool b) ∧ w = w' := by
  subst hb
  by_cases h1 : l ≤ n <;> by_cases h2 : n ≤ h <;>
  · go_enter Try.func51, Try.ntmps51
    go_wp2_with fail
    go_ret
    simp [h1, h2]
end Go.Proofs.Ythpfhbogpnhgmaa
