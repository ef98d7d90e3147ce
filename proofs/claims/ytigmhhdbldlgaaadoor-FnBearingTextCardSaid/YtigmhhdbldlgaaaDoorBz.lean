/-
  What the functions on bearings answer, in both programs the same.
-/
import Derived.Test.YtigmhhdbldlgaaaDoorBu
namespace Go.Proofs.YtigmhhdbldlgaaaDoor
open Go.RowKit
set_option linter.unusedVariables false

theorem b_true {b : Bool} {P : Prop} (h1 : b = true → P) (h2 : b = false → P) : P := by cases b; exact h2 rfl; exact h1 rfl
theorem sOf_any (x y : Int) (w : World) :
    Calls Tryd.prog 21 #[.agg #[.int .i64 x, .int .i64 y]] w fun e w' => e = .returned (.tuple #[.agg #[.int .i64 (Pt.ofX x y), .int .i64 (Pt.ofY x y)], .bool (Pt.ofB x y)]) ∧ Below w.heap.size w w' := by
  unfold Pt.ofX Pt.ofY
  refine b_true (b := Pt.ofB x y) (fun h => ?_) (fun h => ?_)
  · simp only [h, if_true]
    obtain ⟨h1, h2⟩ := Pt.ofB_true h
    exact sOf_yes x y _ w h1 h2 rfl
  · simp only [h, Bool.false_eq_true, if_false]; exact sOf_nob x y w h
theorem iTurn_any (x y k : Int) (w : World) (hk : -9223372036854775808 ≤ k) (hk' : k ≤ 9223372036854775807) :
    Calls Tryd.prog 8 #[.agg #[.int .i64 x, .int .i64 y], .int .i64 k] w fun e w' => e = .returned (.tuple #[.agg #[.int .i64 (if Pt.br x y then (Pt.rot (k % 4).toNat x y).1 else 0), .int .i64 (if Pt.br x y then (Pt.rot (k % 4).toNat x y).2 else 0)], .bool (Pt.br x y)]) ∧ Below w.heap.size w w' := by
  refine b_true (b := Pt.br x y) (fun h => ?_) (fun h => ?_)
  · simp only [h, if_true]; exact iTurn_yes x y k _ w h hk hk' rfl
  · simp only [h, Bool.false_eq_true, if_false]; exact iTurn_no x y k w h
end Go.Proofs.YtigmhhdbldlgaaaDoor
