/-
  The steps of the points' chapter: coordinates as places, validity, steps, products.
-/
import Derived.Test.YtigmhhdbldlgaaaDoorQa
import Derived.Test.YtigmhhdbldlgaaaDoorPMath
namespace Go.Proofs.YtigmhhdbldlgaaaDoor
open Go.RowKit
set_option linter.unusedVariables false

theorem within_is (n m : Int) (b : Bool) (w : World) (hm : 0 ≤ m) (hm' : m ≤ 4000000000000000000) (h : decide (-m ≤ n ∧ n ≤ m) = b) :
    Calls Tryd.prog 31 #[.int .i64 n, .int .i64 m] w fun e w' => e = .returned (.bool b) ∧ w = w' := by
  subst h
  by_cases h : -m ≤ n ∧ n ≤ m
  · simp only [h, and_self, decide_true]; exact within_yes n m w h.1 h.2 hm hm'
  · have := within_no n m w (by omega) hm hm'
    simpa [h] using this

theorem placeOf_any (x y : Int) (w : World) :
    Calls Tryd.prog 24 #[.agg #[.int .i64 x, .int .i64 y]] w fun e w' => e = .returned (.agg #[.int .i64 x, .int .i64 y]) ∧ Below w.heap.size w w' := by
  go_enter Tryd.func24, Tryd.ntmps24
  go_wp2
  exact bodyPost_ret (v := .agg #[.int .i64 x, .int .i64 y]) (by simp [results, Tryd.results24, go_sem]) rfl ⟨rfl, (by repeat (first | assumption | exact Below.refl _ _ | (refine below_chain ?_ (by assumption) (by first | omega | (simp <;> omega) | simp)) | (refine Below.alloc ?_ (by first | omega | (simp <;> omega) | simp) _) | (apply below_drewN) | (apply below_drew) | (refine Below.setCell ?_ (by first | omega | (simp <;> omega) | simp) _)))⟩
theorem point_any (x y : Int) (w : World) :
    Calls Tryd.prog 19 #[.agg #[.int .i64 x, .int .i64 y]] w fun e w' => e = .returned (.agg #[.int .i64 x, .int .i64 y]) ∧ Below w.heap.size w w' := by
  go_enter Tryd.func19, Tryd.ntmps19
  go_wp2
  exact bodyPost_ret (v := .agg #[.int .i64 x, .int .i64 y]) (by simp [results, Tryd.results19, go_sem]) rfl ⟨rfl, (by repeat (first | assumption | exact Below.refl _ _ | (refine below_chain ?_ (by assumption) (by first | omega | (simp <;> omega) | simp)) | (refine Below.alloc ?_ (by first | omega | (simp <;> omega) | simp) _) | (apply below_drewN) | (apply below_drew) | (refine Below.setCell ?_ (by first | omega | (simp <;> omega) | simp) _)))⟩
theorem isWithin_is (x y m : Int) (a b : Bool) (w : World) (hm : 0 ≤ m) (hm' : m ≤ 4000000000000000000) (ha : decide (-m ≤ x ∧ x ≤ m) = a) (hb : decide (-m ≤ y ∧ y ≤ m) = b) :
    Calls Tryd.prog 28 #[.agg #[.int .i64 x, .int .i64 y], .int .i64 m] w fun e w' => e = .returned (.bool (a && b)) ∧ Below w.heap.size w w' := by
  have c1 := fun w => Lib.hid (within_is x m a w hm hm' ha)
  have c2 := fun w => Lib.hid (within_is y m b w hm hm' hb)
  clear ha hb
  cases a <;> cases b
  all_goals
    go_enter Tryd.func28, Tryd.ntmps28
    go_wp2_with (first | (go_at_call 31; (with_reducible refine ((c1 _).out).mono ?_); rintro e w' ⟨rfl, rfl⟩) | (go_at_call 31; (with_reducible refine ((c2 _).out).mono ?_); rintro e w' ⟨rfl, rfl⟩))
    go_ret
    exact ⟨rfl, (by repeat (first | assumption | exact Below.refl _ _ | (refine below_chain ?_ (by assumption) (by first | omega | (simp <;> omega) | simp)) | (refine Below.alloc ?_ (by first | omega | (simp <;> omega) | simp) _) | (apply below_drewN) | (apply below_drew) | (refine Below.setCell ?_ (by first | omega | (simp <;> omega) | simp) _)))⟩
theorem istep_any (x y : Int) (w : World) :
    Calls Tryd.prog 22 #[.agg #[.int .i64 x, .int .i64 y]] w fun e w' => e = .returned (.bool (Pt.sv x y)) ∧ Below w.heap.size w w' := by
  have e : Pt.sv x y = (decide (-20000 ≤ x ∧ x ≤ 20000) && decide (-20000 ≤ y ∧ y ≤ 20000)) := by unfold Pt.sv; rw [← Bool.decide_and]; apply decide_eq_decide.2; omega
  rw [e]
  clear e
  go_enter Tryd.func22, Tryd.ntmps22
  go_wp2_with (first | (go_at_call 24; (with_reducible refine (placeOf_any _ _ _).mono ?_); rintro e wn ⟨rfl, hbn⟩; obtain ⟨hcn, hfn⟩ := bcell hbn; have hzn : w.heap.size < wn.heap.size := (by have := hbn.size; (try simp at this); omega)) | (go_at_call 28; (with_reducible refine (isWithin_is _ _ _ _ _ _ (by decide) (by decide) rfl rfl).mono ?_); rintro e wn ⟨rfl, hbn⟩; obtain ⟨hcn, hfn⟩ := bcell hbn; have hzn : w.heap.size < wn.heap.size := (by have := hbn.size; (try simp at this); omega)))
  go_ret
  exact ⟨ret_bool (by simp), (by repeat (first | assumption | exact Below.refl _ _ | (refine below_chain ?_ (by assumption) (by first | omega | (simp <;> omega) | simp)) | (refine Below.alloc ?_ (by first | omega | (simp <;> omega) | simp) _) | (apply below_drewN) | (apply below_drew) | (refine Below.setCell ?_ (by first | omega | (simp <;> omega) | simp) _)))⟩
theorem istep_is (x y : Int) (b : Bool) (w : World) (h : Pt.sv x y = b) :
    Calls Tryd.prog 22 #[.agg #[.int .i64 x, .int .i64 y]] w fun e w' => e = .returned (.bool b) ∧ Below w.heap.size w w' := by
  rw [← h]; exact istep_any x y w

end Go.Proofs.YtigmhhdbldlgaaaDoor
