/-
  What PointMove answers, in both programs the same.
-/
import Derived.Test.YtigmhhdbldlgaaaPm
import Derived.Test.YtigmhhdbldlgaaaPs
namespace Go.Proofs.Ytigmhhdbldlgaaa
open Go.RowKit
set_option linter.unusedVariables false

def mvOk (a b c d : Int) : Bool := Pt.pv a b && Pt.sv c d && Pt.pv (a + c) (b + d)
theorem iMove_any (a b c d : Int) (w : World) :
    Calls Try.prog 20 #[.agg #[.int .i64 a, .int .i64 b], .agg #[.int .i64 c, .int .i64 d]] w fun e w' => e = .returned (.tuple #[.agg #[.int .i64 (if mvOk a b c d then a + c else 0), .int .i64 (if mvOk a b c d then b + d else 0)], .bool (mvOk a b c d)]) ∧ Below w.heap.size w w' := by
  by_cases h : (Pt.pv a b && Pt.sv c d) = true
  · have h1 : Pt.pv a b = true ∧ Pt.sv c d = true := by simpa using h
    have e : mvOk a b c d = Pt.pv (a + c) (b + d) := by unfold mvOk; rw [h]; rfl
    rw [e]
    exact iMove_is a b c d _ w h1.1 h1.2 rfl
  · have h' : (Pt.pv a b && Pt.sv c d) = false := by simpa using h
    have e : mvOk a b c d = false := by unfold mvOk; rw [h']; rfl
    rw [e]
    simp only [Bool.false_eq_true, if_false]
    exact iMove_no a b c d w h'
end Go.Proofs.Ytigmhhdbldlgaaa
