/-
  What the reference model's NetValid answers.
-/
import Derived.Test.YtjfbkafekkbcdaaNb
namespace Go.Proofs.Ytjfbkafekkbcdaa
open Go.RowKit
set_option linter.unusedVariables false

theorem rOk_parts {n : Int} {r : Rn} {b : Bool} (h : rOk n r = b) :
    (¬ (0 ≤ r.f ∧ r.f ≤ n - 1) ∧ b = false) ∨ ((0 ≤ r.f ∧ r.f ≤ n - 1) ∧ ¬ (0 ≤ r.t ∧ r.t ≤ n - 1) ∧ b = false) ∨ ((0 ≤ r.f ∧ r.f ≤ n - 1) ∧ (0 ≤ r.t ∧ r.t ≤ n - 1) ∧ r.f = r.t ∧ b = false) ∨
    ((0 ≤ r.f ∧ r.f ≤ n - 1) ∧ (0 ≤ r.t ∧ r.t ≤ n - 1) ∧ r.f ≠ r.t ∧ ¬ (-100000 ≤ r.s ∧ r.s ≤ 100000) ∧ b = false) ∨
    ((0 ≤ r.f ∧ r.f ≤ n - 1) ∧ (0 ≤ r.t ∧ r.t ≤ n - 1) ∧ r.f ≠ r.t ∧ (-100000 ≤ r.s ∧ r.s ≤ 100000) ∧ ¬ (1 ≤ r.g ∧ r.g ≤ 9) ∧ b = false) ∨
    ((0 ≤ r.f ∧ r.f ≤ n - 1) ∧ (0 ≤ r.t ∧ r.t ≤ n - 1) ∧ r.f ≠ r.t ∧ (-100000 ≤ r.s ∧ r.s ≤ 100000) ∧ (1 ≤ r.g ∧ r.g ≤ 9) ∧ b = true) := by
  cases b
  · have : ¬ (0 ≤ r.f ∧ r.f < n ∧ 0 ≤ r.t ∧ r.t < n ∧ r.f ≠ r.t ∧ -100000 ≤ r.s ∧ r.s ≤ 100000 ∧ 1 ≤ r.g ∧ r.g ≤ 9) := by
      rintro ⟨h1, h2, h3, h4, h5, h6, h7, h8, h9⟩
      rw [rOk_of h1 h2 h3 h4 h5 h6 h7 h8 h9] at h; cases h
    simp; omega
  · have := rOk_true h
    simp; omega

end Go.Proofs.Ytjfbkafekkbcdaa
