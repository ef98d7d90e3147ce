/-
  What the functions on bearings answer, in both programs the same.
-/
import Derived.Test.YtigmhhdbldlgaaaBu
namespace Go.Proofs.Ytigmhhdbldlgaaa
open Go.RowKit
set_option linter.unusedVariables false

theorem b_true {b : Bool} {P : Prop} (h1 : b = true → P) (h2 : b = false → P) : P := by cases b; exact h2 rfl; exact h1 rfl
theorem iOf_any (x y : Int) (w : World) :
    Calls Try.prog 33 #[.agg #[.int .i64 x, .int .i64 y]] w fun e w' => e = .returned (.tuple #[.agg #[.int .i64 (Pt.ofX x y), .int .i64 (Pt.ofY x y)], .bool (Pt.ofB x y)]) ∧ Below w.heap.size w w' := by
  unfold Pt.ofX Pt.ofY
  refine b_true (b := Pt.ofB x y) (fun h => ?_) (fun h => ?_)
  · simp only [h, if_true]
    obtain ⟨h1, h2⟩ := Pt.ofB_true h
    exact iOf_yes x y _ w h1 h2 rfl
  · simp only [h, Bool.false_eq_true, if_false]; exact iOf_nob x y w h
theorem sOf_any (x y : Int) (w : World) :
    Calls Try.prog 34 #[.agg #[.int .i64 x, .int .i64 y]] w fun e w' => e = .returned (.tuple #[.agg #[.int .i64 (Pt.ofX x y), .int .i64 (Pt.ofY x y)], .bool (Pt.ofB x y)]) ∧ Below w.heap.size w w' := by
  unfold Pt.ofX Pt.ofY
  refine b_true (b := Pt.ofB x y) (fun h => ?_) (fun h => ?_)
  · simp only [h, if_true]
    obtain ⟨h1, h2⟩ := Pt.ofB_true h
    exact sOf_yes x y _ w h1 h2 rfl
  · simp only [h, Bool.false_eq_true, if_false]; exact sOf_nob x y w h
theorem iBack_any (x y : Int) (w : World) :
    Calls Try.prog 35 #[.agg #[.int .i64 x, .int .i64 y]] w fun e w' => e = .returned (.tuple #[.agg #[.int .i64 (if Pt.br x y then -x else 0), .int .i64 (if Pt.br x y then -y else 0)], .bool (Pt.br x y)]) ∧ Below w.heap.size w w' := by
  refine b_true (b := Pt.br x y) (fun h => ?_) (fun h => ?_)
  · simp only [h, if_true]; exact iBack_yes x y w h
  · simp only [h, Bool.false_eq_true, if_false]; exact iBack_no x y w h
theorem sBack_any (x y : Int) (w : World) :
    Calls Try.prog 45 #[.agg #[.int .i64 x, .int .i64 y]] w fun e w' => e = .returned (.tuple #[.agg #[.int .i64 (if Pt.br x y then -x else 0), .int .i64 (if Pt.br x y then -y else 0)], .bool (Pt.br x y)]) ∧ Below w.heap.size w w' := by
  refine b_true (b := Pt.br x y) (fun h => ?_) (fun h => ?_)
  · simp only [h, if_true]; exact sBack_yes x y w h
  · simp only [h, Bool.false_eq_true, if_false]; exact sBack_no x y w h
theorem iQuarter_any (x y : Int) (w : World) :
    Calls Try.prog 39 #[.agg #[.int .i64 x, .int .i64 y]] w fun e w' => e = .returned (.tuple #[.int .i64 (if Pt.br x y then Pt.qt x y else 0), .bool (Pt.br x y)]) ∧ Below w.heap.size w w' := by
  refine b_true (b := Pt.br x y) (fun h => ?_) (fun h => ?_)
  · simp only [h, if_true]; exact iQuarter_yes x y w h
  · simp only [h, Bool.false_eq_true, if_false]; exact iQuarter_no x y w h
theorem sQuarter_any (x y : Int) (w : World) :
    Calls Try.prog 46 #[.agg #[.int .i64 x, .int .i64 y]] w fun e w' => e = .returned (.tuple #[.int .i64 (if Pt.br x y then Pt.qt x y else 0), .bool (Pt.br x y)]) ∧ Below w.heap.size w w' := by
  refine b_true (b := Pt.br x y) (fun h => ?_) (fun h => ?_)
  · simp only [h, if_true]; exact sQuarter_yes x y w h
  · simp only [h, Bool.false_eq_true, if_false]; exact sQuarter_no x y w h
theorem iTurn_any (x y k : Int) (w : World) (hk : -9223372036854775808 ≤ k) (hk' : k ≤ 9223372036854775807) :
    Calls Try.prog 37 #[.agg #[.int .i64 x, .int .i64 y], .int .i64 k] w fun e w' => e = .returned (.tuple #[.agg #[.int .i64 (if Pt.br x y then (Pt.rot (k % 4).toNat x y).1 else 0), .int .i64 (if Pt.br x y then (Pt.rot (k % 4).toNat x y).2 else 0)], .bool (Pt.br x y)]) ∧ Below w.heap.size w w' := by
  refine b_true (b := Pt.br x y) (fun h => ?_) (fun h => ?_)
  · simp only [h, if_true]; exact iTurn_yes x y k _ w h hk hk' rfl
  · simp only [h, Bool.false_eq_true, if_false]; exact iTurn_no x y k w h
theorem sTurn_any (x y k : Int) (w : World) (hk : -9223372036854775808 ≤ k) (hk' : k ≤ 9223372036854775807) :
    Calls Try.prog 38 #[.agg #[.int .i64 x, .int .i64 y], .int .i64 k] w fun e w' => e = .returned (.tuple #[.agg #[.int .i64 (if Pt.br x y then (Pt.rot (k % 4).toNat x y).1 else 0), .int .i64 (if Pt.br x y then (Pt.rot (k % 4).toNat x y).2 else 0)], .bool (Pt.br x y)]) ∧ Below w.heap.size w w' := by
  refine b_true (b := Pt.br x y) (fun h => ?_) (fun h => ?_)
  · simp only [h, if_true]; exact sTurn_yes x y k _ w h hk hk' rfl
  · simp only [h, Bool.false_eq_true, if_false]; exact sTurn_no x y k w h
theorem iLess_any (a b c d : Int) (w : World) :
    Calls Try.prog 41 #[.agg #[.int .i64 a, .int .i64 b], .agg #[.int .i64 c, .int .i64 d]] w fun e w' => e = .returned (.bool (Pt.les a b c d)) ∧ Below w.heap.size w w' := by
  refine b_true (b := Pt.br a b && Pt.br c d) (fun h => ?_) (fun h => ?_)
  · obtain ⟨h1, h2⟩ := (Bool.and_eq_true _ _).mp h
    by_cases hq : Pt.qt a b = Pt.qt c d
    · rw [Pt.les_near h1 h2 hq]; exact iLess_near a b c d _ _ w h1 h2 hq rfl rfl
    · rw [Pt.les_far h1 h2 hq]; exact iLess_far a b c d _ _ w h1 h2 rfl rfl hq
  · rw [Pt.les_no h]; exact iLess_no a b c d _ _ w rfl rfl h
theorem sLess_any (a b c d : Int) (w : World) :
    Calls Try.prog 42 #[.agg #[.int .i64 a, .int .i64 b], .agg #[.int .i64 c, .int .i64 d]] w fun e w' => e = .returned (.bool (Pt.les a b c d)) ∧ Below w.heap.size w w' := by
  refine b_true (b := Pt.br a b && Pt.br c d) (fun h => ?_) (fun h => ?_)
  · obtain ⟨h1, h2⟩ := (Bool.and_eq_true _ _).mp h
    by_cases hq : Pt.qt a b = Pt.qt c d
    · rw [Pt.les_near h1 h2 hq]; exact sLess_near a b c d _ _ w h1 h2 hq rfl rfl
    · rw [Pt.les_far h1 h2 hq]; exact sLess_far a b c d _ _ w h1 h2 rfl rfl hq
  · rw [Pt.les_no h]; exact sLess_no a b c d _ _ w rfl rfl h
end Go.Proofs.Ytigmhhdbldlgaaa
