/-
  What the reference model's functions on points answer, as functions on coordinates.
-/
import Derived.Test.YtigmhhdbldlgaaaDoorQa
import Derived.Test.YtigmhhdbldlgaaaDoorPMath
import Derived.Deep.RegionHeld3
import Derived.Deep.DeepCutAuto
namespace Go.Proofs.YtigmhhdbldlgaaaDoor
open Go.RowKit
set_option linter.unusedVariables false

theorem in_is (n l h : Int) (b : Bool) (w : World) (hb : decide (l ≤ n ∧ n ≤ h) = b) :
    Calls Tryd.prog 30 #[.int .i64 n, .int .i64 l, .int .i64 h] w fun e w' => e = .returned (.bool b) ∧ w = w' := by
  subst hb
  by_cases h1 : l ≤ n ∧ n ≤ h
  · simp only [h1, and_self, decide_true]; exact in_yes n l h w h1.1 h1.2
  · have := in_no n l h w (by omega)
    simpa [h1] using this
theorem sstep_any (x y : Int) (w : World) :
    Calls Tryd.prog 26 #[.agg #[.int .i64 x, .int .i64 y]] w fun e w' => e = .returned (.bool (Pt.sv x y)) ∧ Below w.heap.size w w' := by
  have e : Pt.sv x y = (decide (-20000 ≤ x ∧ x ≤ 20000) && decide (-20000 ≤ y ∧ y ≤ 20000)) := by unfold Pt.sv; rw [← Bool.decide_and]; apply decide_eq_decide.2; omega
  rw [e]
  obtain ⟨p, hp⟩ : ∃ p, decide (-20000 ≤ x ∧ x ≤ 20000) = p := ⟨_, rfl⟩
  obtain ⟨q, hq⟩ : ∃ q, decide (-20000 ≤ y ∧ y ≤ 20000) = q := ⟨_, rfl⟩
  rw [hp, hq]
  have c1 := fun w => Lib.hid (in_is x _ _ p w hp)
  have c2 := fun w => Lib.hid (in_is y _ _ q w hq)
  clear e hp hq
  cases p <;> cases q
  all_goals
    go_enter Tryd.func26, Tryd.ntmps26
    go_wp2_with (first | (go_at_call 30; (with_reducible refine ((c1 _).out).mono ?_); rintro e w' ⟨rfl, rfl⟩) | (go_at_call 30; (with_reducible refine ((c2 _).out).mono ?_); rintro e w' ⟨rfl, rfl⟩))
    go_ret
    exact ⟨rfl, (by repeat (first | assumption | exact Below.refl _ _ | (refine below_chain ?_ (by assumption) (by first | omega | (simp <;> omega) | simp)) | (refine Below.alloc ?_ (by first | omega | (simp <;> omega) | simp) _) | (apply below_drewN) | (apply below_drew) | (refine Below.setCell ?_ (by first | omega | (simp <;> omega) | simp) _)))⟩
theorem sstep_is (x y : Int) (b : Bool) (w : World) (h : Pt.sv x y = b) :
    Calls Tryd.prog 26 #[.agg #[.int .i64 x, .int .i64 y]] w fun e w' => e = .returned (.bool b) ∧ Below w.heap.size w w' := by
  rw [← h]; exact sstep_any x y w

def both' (a b c d : Int) : Bool := Pt.pv a b && Pt.pv c d
end Go.Proofs.YtigmhhdbldlgaaaDoor
