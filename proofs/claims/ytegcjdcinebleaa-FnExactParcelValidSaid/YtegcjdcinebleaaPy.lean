/-
  What PointOn answers, in both programs the same.
-/
import Derived.Test.YtegcjdcinebleaaPe
import Derived.Test.YtegcjdcinebleaaPt
namespace Go.Proofs.Ytegcjdcinebleaa
open Go.RowKit
set_option linter.unusedVariables false

def onV (a b c d u v : Int) : Bool := three a b c d u v && Pt.onB a b c d u v
theorem iOn_any (a b c d u v : Int) (w : World) :
    Calls Try.prog 51 #[.agg #[.int .i64 a, .int .i64 b], .agg #[.int .i64 c, .int .i64 d], .agg #[.int .i64 u, .int .i64 v]] w fun e w' => e = .returned (.bool (onV a b c d u v)) ∧ Below w.heap.size w w' := by
  by_cases h : three a b c d u v = true
  · exact iOn_yes a b c d u v _ w h (by unfold onV; simp [h])
  · have h' : three a b c d u v = false := by simpa using h
    have e : onV a b c d u v = false := by unfold onV; simp [h']
    rw [e]; exact iOn_no a b c d u v w h'
end Go.Proofs.Ytegcjdcinebleaa
