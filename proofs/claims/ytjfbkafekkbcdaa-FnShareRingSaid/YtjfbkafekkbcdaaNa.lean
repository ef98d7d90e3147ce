/-
  What the two programs' checks of a number and of a run answer.
-/
import Derived.Test.YtjfbkafekkbcdaaNMath
import Derived.Test.YtjfbkafekkbcdaaRegB
namespace Go.Proofs.Ytjfbkafekkbcdaa
open Go.RowKit
set_option linter.unusedVariables false

theorem nWithin (n m : Int) (b : Bool) (w : World) (hm : 0 ≤ m) (hm' : m ≤ 4000000000000000000) (h : decide (-m ≤ n ∧ n ≤ m) = b) :
    Calls Try.prog 41 #[.int .i64 n, .int .i64 m] w fun e w' => e = .returned (.bool b) ∧ w = w' := by
  subst h
  by_cases h1 : -m ≤ n <;> by_cases h2 : n ≤ m <;>
  · go_enter Try.func41, Try.ntmps41
    go_wp2_with fail
    go_ret
    simp [h1, h2]
theorem nHas (n k : Int) (b : Bool) (w : World) (h : decide (0 ≤ k ∧ k < n) = b) :
    Calls Try.prog 66 #[.int .i64 n, .int .i64 k] w fun e w' => e = .returned (.bool b) ∧ w = w' := by
  subst h
  by_cases h1 : 0 ≤ k <;> by_cases h2 : k < n <;>
  · go_enter Try.func66, Try.ntmps66
    go_wp2_with fail
    go_ret
    simp [h1, h2]
theorem nHasRun (p : Option Addr) (len c : Nat) (k : Int) (b : Bool) (w : World) (h : decide (0 ≤ k ∧ k < len) = b) :
    Calls Try.prog 72 #[.slice p len c, .int .i64 k] w fun e w' => e = .returned (.bool b) ∧ w = w' := by
  subst h
  by_cases h1 : 0 ≤ k <;> by_cases h2 : k < len <;>
  · go_enter Try.func72, Try.ntmps72
    go_wp2_with fail
    go_ret
    simp [h1, h2]
theorem nIn (n l h : Int) (b : Bool) (w : World) (hb : decide (l ≤ n ∧ n ≤ h) = b) :
    Calls Try.prog 52 #[.int .i64 n, .int .i64 l, .int .i64 h] w fun e w' => e = .returned (.bool b) ∧ w = w' := by
  subst hb
  by_cases h1 : l ≤ n <;> by_cases h2 : n ≤ h <;>
  · go_enter Try.func52, Try.ntmps52
    go_wp2_with fail
    go_ret
    simp [h1, h2]
end Go.Proofs.Ytjfbkafekkbcdaa
