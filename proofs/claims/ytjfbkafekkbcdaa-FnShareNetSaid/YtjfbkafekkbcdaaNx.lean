/-
  What NetLoops answers, in both programs.
-/
import Derived.Test.YtjfbkafekkbcdaaNw
namespace Go.Proofs.Ytjfbkafekkbcdaa
open Go.RowKit
set_option linter.unusedVariables false

theorem nLoops_yes {N : Nat} {rs : List Rn} (h : nOk N rs = true) : nLoops N rs = (rs.length : Int) - N + roots (labs N rs) N := by
  unfold nLoops; rw [if_pos h]; simp
theorem nLoops_no {n : Int} {rs : List Rn} (h : nOk n rs = false) : nLoops n rs = -1 := by unfold nLoops; simp [h]
theorem roots_hit {L : List Int} {k : Nat} {z : Int} (hz : L[k]? = some z) : roots L (k + 1) = roots L k + if (k : Int) = z then 1 else 0 := by
  simp only [roots, htAt_nat hz]
  by_cases e : (k : Int) = z
  · simp [e]
  · have : ¬ z = (k : Int) := fun e' => e e'.symm
    simp [e, this]

end Go.Proofs.Ytjfbkafekkbcdaa
