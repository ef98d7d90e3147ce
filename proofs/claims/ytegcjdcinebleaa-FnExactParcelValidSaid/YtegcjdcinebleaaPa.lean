/-
  The steps of the points' chapter: coordinates as places, validity, steps, products.
-/
import Derived.Test.YtegcjdcinebleaaQz
import Derived.Test.YtegcjdcinebleaaPMath
namespace Go.Proofs.Ytegcjdcinebleaa
open Go.RowKit
set_option linter.unusedVariables false

theorem within_is (n m : Int) (b : Bool) (w : World) (hm : 0 ≤ m) (hm' : m ≤ 4000000000000000000) (h : decide (-m ≤ n ∧ n ≤ m) = b) :
    Calls Try.prog 111 #[.int .i64 n, .int .i64 m] w fun e w' => e = .returned (.bool b) ∧ w = w' := by
  subst h
  by_cases h : -m ≤ n ∧ n ≤ m
  · simp only [h, and_self, decide_true]; exact within_yes n m w h.1 h.2 hm hm'
  · have := within_no n m w (by omega) hm hm'
    simpa [h] using this

theorem placeOf_any (x y : Int) (w : World) :
    Calls Try.prog 82 #[.agg #[.int .i64 x, .int .i64 y]] w fun e w' => e = .returned (.agg #[.int .i64 x, .int .i64 y]) ∧ Below w.heap.size w w' := by
  go_enter Try.func82, Try.ntmps82
  go_wp2
  exact bodyPost_ret (v := .agg #[.int .i64 x, .int .i64 y]) (by simp [results, Try.results82, go_sem]) rfl ⟨rfl, (by repeat (first | assumption | exact Below.refl _ _ | (refine below_chain ?_ (by assumption) (by first | omega | (simp <;> omega) | simp)) | (refine Below.alloc ?_ (by first | omega | (simp <;> omega) | simp) _) | (apply below_drewN) | (apply below_drew) | (refine Below.setCell ?_ (by first | omega | (simp <;> omega) | simp) _)))⟩
theorem isWithin_is (x y m : Int) (a b : Bool) (w : World) (hm : 0 ≤ m) (hm' : m ≤ 4000000000000000000) (ha : decide (-m ≤ x ∧ x ≤ m) = a) (hb : decide (-m ≤ y ∧ y ≤ m) = b) :
    Calls Try.prog 83 #[.agg #[.int .i64 x, .int .i64 y], .int .i64 m] w fun e w' => e = .returned (.bool (a && b)) ∧ Below w.heap.size w w' := by
  have c1 := fun w => Lib.hid (within_is x m a w hm hm' ha)
  have c2 := fun w => Lib.hid (within_is y m b w hm hm' hb)
  clear ha hb
  cases a <;> cases b
  all_goals
    go_enter Try.func83, Try.ntmps83
    go_wp2_with (first | (go_at_call 111; (with_reducible refine ((c1 _).out).mono ?_); rintro e w' ⟨rfl, rfl⟩) | (go_at_call 111; (with_reducible refine ((c2 _).out).mono ?_); rintro e w' ⟨rfl, rfl⟩))
    go_ret
    exact ⟨rfl, (by repeat (first | assumption | exact Below.refl _ _ | (refine below_chain ?_ (by assumption) (by first | omega | (simp <;> omega) | simp)) | (refine Below.alloc ?_ (by first | omega | (simp <;> omega) | simp) _) | (apply below_drewN) | (apply below_drew) | (refine Below.setCell ?_ (by first | omega | (simp <;> omega) | simp) _)))⟩
theorem ipv_any (x y : Int) (w : World) :
    Calls Try.prog 36 #[.agg #[.int .i64 x, .int .i64 y]] w fun e w' => e = .returned (.bool (Pt.pv x y)) ∧ Below w.heap.size w w' := by
  have e : Pt.pv x y = (decide (-10000 ≤ x ∧ x ≤ 10000) && decide (-10000 ≤ y ∧ y ≤ 10000)) := by unfold Pt.pv; rw [← Bool.decide_and]; apply decide_eq_decide.2; omega
  rw [e]
  clear e
  go_enter Try.func36, Try.ntmps36
  go_wp2_with (first | (go_at_call 82; (with_reducible refine (placeOf_any _ _ _).mono ?_); rintro e wn ⟨rfl, hbn⟩; obtain ⟨hcn, hfn⟩ := bcell hbn; have hzn : w.heap.size < wn.heap.size := (by have := hbn.size; (try simp at this); omega)) | (go_at_call 83; (with_reducible refine (isWithin_is _ _ _ _ _ _ (by decide) (by decide) rfl rfl).mono ?_); rintro e wn ⟨rfl, hbn⟩; obtain ⟨hcn, hfn⟩ := bcell hbn; have hzn : w.heap.size < wn.heap.size := (by have := hbn.size; (try simp at this); omega)))
  go_ret
  exact ⟨ret_bool (by simp), (by repeat (first | assumption | exact Below.refl _ _ | (refine below_chain ?_ (by assumption) (by first | omega | (simp <;> omega) | simp)) | (refine Below.alloc ?_ (by first | omega | (simp <;> omega) | simp) _) | (apply below_drewN) | (apply below_drew) | (refine Below.setCell ?_ (by first | omega | (simp <;> omega) | simp) _)))⟩
theorem ipv_is (x y : Int) (b : Bool) (w : World) (h : Pt.pv x y = b) :
    Calls Try.prog 36 #[.agg #[.int .i64 x, .int .i64 y]] w fun e w' => e = .returned (.bool b) ∧ Below w.heap.size w w' := by
  rw [← h]; exact ipv_any x y w

theorem to_any (a b c d : Int) (w : World) (h1 : Pt.pv a b = true) (h2 : Pt.pv c d = true) :
    Calls Try.prog 88 #[.agg #[.int .i64 a, .int .i64 b], .agg #[.int .i64 c, .int .i64 d]] w fun e w' => e = .returned (.agg #[.int .i64 (c - a), .int .i64 (d - b)]) ∧ Below w.heap.size w w' := by
  obtain ⟨p1, p2, p3, p4⟩ := Pt.pv_true h1
  obtain ⟨q1, q2, q3, q4⟩ := Pt.pv_true h2
  clear h1 h2
  go_enter Try.func88, Try.ntmps88
  go_wp2
  exact bodyPost_ret (v := .agg #[.int .i64 (c - a), .int .i64 (d - b)]) (by simp [results, Try.results88, go_sem]) rfl ⟨rfl, (by repeat (first | assumption | exact Below.refl _ _ | (refine below_chain ?_ (by assumption) (by first | omega | (simp <;> omega) | simp)) | (refine Below.alloc ?_ (by first | omega | (simp <;> omega) | simp) _) | (apply below_drewN) | (apply below_drew) | (refine Below.setCell ?_ (by first | omega | (simp <;> omega) | simp) _)))⟩
theorem dot_any (a b c d : Int) (w : World) (h1 : Pt.sv a b = true) (h2 : Pt.sv c d = true) :
    Calls Try.prog 96 #[.agg #[.int .i64 a, .int .i64 b], .agg #[.int .i64 c, .int .i64 d]] w fun e w' => e = .returned (.int .i64 (Pt.dt a b c d)) ∧ Below w.heap.size w w' := by
  obtain ⟨p1, p2, p3, p4⟩ := Pt.sv_true h1
  obtain ⟨q1, q2, q3, q4⟩ := Pt.sv_true h2
  clear h1 h2
  obtain ⟨r1, r2⟩ := Pt.mul_bd p1 p2 q1 q2
  obtain ⟨s1, s2⟩ := Pt.mul_bd p3 p4 q3 q4
  unfold Pt.dt
  go_enter Try.func96, Try.ntmps96
  go_wp2
  go_ret
  exact ⟨rfl, (by repeat (first | assumption | exact Below.refl _ _ | (refine below_chain ?_ (by assumption) (by first | omega | (simp <;> omega) | simp)) | (refine Below.alloc ?_ (by first | omega | (simp <;> omega) | simp) _) | (apply below_drewN) | (apply below_drew) | (refine Below.setCell ?_ (by first | omega | (simp <;> omega) | simp) _)))⟩
theorem cross_any (a b c d : Int) (w : World) (h1 : Pt.sv a b = true) (h2 : Pt.sv c d = true) :
    Calls Try.prog 95 #[.agg #[.int .i64 a, .int .i64 b], .agg #[.int .i64 c, .int .i64 d]] w fun e w' => e = .returned (.int .i64 (Pt.cr a b c d)) ∧ Below w.heap.size w w' := by
  obtain ⟨p1, p2, p3, p4⟩ := Pt.sv_true h1
  obtain ⟨q1, q2, q3, q4⟩ := Pt.sv_true h2
  clear h1 h2
  obtain ⟨r1, r2⟩ := Pt.mul_bd p1 p2 q3 q4
  obtain ⟨s1, s2⟩ := Pt.mul_bd p3 p4 q1 q2
  unfold Pt.cr
  go_enter Try.func95, Try.ntmps95
  go_wp2
  go_ret
  exact ⟨rfl, (by repeat (first | assumption | exact Below.refl _ _ | (refine below_chain ?_ (by assumption) (by first | omega | (simp <;> omega) | simp)) | (refine Below.alloc ?_ (by first | omega | (simp <;> omega) | simp) _) | (apply below_drewN) | (apply below_drew) | (refine Below.setCell ?_ (by first | omega | (simp <;> omega) | simp) _)))⟩
end Go.Proofs.Ytegcjdcinebleaa
