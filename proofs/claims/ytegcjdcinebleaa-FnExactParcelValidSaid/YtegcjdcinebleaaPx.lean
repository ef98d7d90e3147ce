/-
  What PointSide answers, in both programs the same.
-/
import Derived.Test.YtegcjdcinebleaaPd
import Derived.Test.YtegcjdcinebleaaPt
namespace Go.Proofs.Ytegcjdcinebleaa
open Go.RowKit
set_option linter.unusedVariables false

def sideV (a b c d u v : Int) : Int := if three a b c d u v then (if Pt.cr (c - a) (d - b) (u - a) (v - b) < 0 then -1 else if 0 < Pt.cr (c - a) (d - b) (u - a) (v - b) then 1 else 0) else 0
theorem iSide_any (a b c d u v : Int) (w : World) :
    Calls Try.prog 121 #[.agg #[.int .i64 a, .int .i64 b], .agg #[.int .i64 c, .int .i64 d], .agg #[.int .i64 u, .int .i64 v]] w fun e w' => e = .returned (.tuple #[.int .i64 (sideV a b c d u v), .bool (three a b c d u v)]) ∧ Below w.heap.size w w' := by
  by_cases h : three a b c d u v = true
  · rw [h]; exact iSide_yes a b c d u v _ w h (by unfold sideV; simp [h])
  · have h' : three a b c d u v = false := by simpa using h
    have e : sideV a b c d u v = 0 := by unfold sideV; simp [h']
    rw [h', e]; exact iSide_no a b c d u v w h'
end Go.Proofs.Ytegcjdcinebleaa
