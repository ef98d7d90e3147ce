/-
  What PointStep, PointFar and PointGaps answer, in both programs the same.
-/
import Derived.Test.YtegcjdcinebleaaPc
import Derived.Test.YtegcjdcinebleaaPs
namespace Go.Proofs.Ytegcjdcinebleaa
open Go.RowKit
set_option linter.unusedVariables false

theorem sStep_any (a b c d : Int) (w : World) :
    Calls Try.prog 120 #[.agg #[.int .i64 a, .int .i64 b], .agg #[.int .i64 c, .int .i64 d]] w fun e w' => e = .returned (.tuple #[.agg #[.int .i64 (if both a b c d then c - a else 0), .int .i64 (if both a b c d then d - b else 0)], .bool (both a b c d)]) ∧ Below w.heap.size w w' := by
  by_cases h : both a b c d = true
  · obtain ⟨h1, h2⟩ := both_true h
    have := sStep_is a b c d true true w h1 h2
    simpa [h] using this
  · have h' : both a b c d = false := by simpa using h
    have := sStep_is a b c d _ _ w rfl rfl
    unfold both at h'
    simpa [both, h'] using this
theorem iGaps_any (a b c d : Int) (w : World) :
    Calls Try.prog 41 #[.agg #[.int .i64 a, .int .i64 b], .agg #[.int .i64 c, .int .i64 d]] w fun e w' => e = .returned (.int .i64 (if both a b c d then (Int.gcd (c - a) (d - b) : Int) else -1)) ∧ Below w.heap.size w w' := by
  by_cases h : both a b c d = true
  · simp only [h, if_true]; exact iGaps_yes a b c d w h
  · have h' : both a b c d = false := by simpa using h
    simp only [h', Bool.false_eq_true, if_false]; exact iGaps_no a b c d w h'
theorem sGaps_any (a b c d : Int) (w : World) :
    Calls Try.prog 107 #[.agg #[.int .i64 a, .int .i64 b], .agg #[.int .i64 c, .int .i64 d]] w fun e w' => e = .returned (.int .i64 (if both a b c d then (Int.gcd (c - a) (d - b) : Int) else -1)) ∧ Below w.heap.size w w' := by
  by_cases h : both a b c d = true
  · obtain ⟨h1, h2⟩ := both_true h
    simp only [h, if_true]; exact sGaps_yes a b c d w h1 h2
  · have h' : both a b c d = false := by simpa using h
    simp only [h', Bool.false_eq_true, if_false]; exact sGaps_no a b c d _ _ w rfl rfl h'
end Go.Proofs.Ytegcjdcinebleaa
