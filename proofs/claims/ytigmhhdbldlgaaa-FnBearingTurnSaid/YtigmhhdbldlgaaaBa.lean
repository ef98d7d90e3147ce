/-
  What the bearings' functions of the program answer, as functions on coordinates.
-/
import Derived.Test.YtigmhhdbldlgaaaPa
import Derived.Test.YtigmhhdbldlgaaaBMath
import Derived.Test.YtigmhhdbldlgaaaRegB
import Derived.Deep.RegionHeld3
import Derived.Deep.DeepCutAuto
namespace Go.Proofs.Ytigmhhdbldlgaaa
open Go.RowKit
set_option linter.unusedVariables false

theorem opposite_any (x y : Int) (w : World) (h : Pt.sv x y = true) :
    Calls Try.prog 69 #[.agg #[.int .i64 x, .int .i64 y]] w fun e w' => e = .returned (.agg #[.int .i64 (-x), .int .i64 (-y)]) ∧ Below w.heap.size w w' := by
  obtain ⟨p1, p2, p3, p4⟩ := Pt.sv_true h
  clear h
  go_enter Try.func69, Try.ntmps69
  go_wp2
  exact bodyPost_ret (v := .agg #[.int .i64 (-x), .int .i64 (-y)]) (by simp [results, Try.results69, go_sem]) rfl ⟨rfl, (by repeat (first | assumption | exact Below.refl _ _ | (refine below_chain ?_ (by assumption) (by first | omega | (simp <;> omega) | simp)) | (refine Below.alloc ?_ (by first | omega | (simp <;> omega) | simp) _) | (apply below_drewN) | (apply below_drew) | (refine Below.setCell ?_ (by first | omega | (simp <;> omega) | simp) _)))⟩
theorem turned_any (x y : Int) (w : World) (h : Pt.sv x y = true) :
    Calls Try.prog 71 #[.agg #[.int .i64 x, .int .i64 y]] w fun e w' => e = .returned (.agg #[.int .i64 y, .int .i64 (-x)]) ∧ Below w.heap.size w w' := by
  obtain ⟨p1, p2, p3, p4⟩ := Pt.sv_true h
  clear h
  go_enter Try.func71, Try.ntmps71
  go_wp2
  exact bodyPost_ret (v := .agg #[.int .i64 y, .int .i64 (-x)]) (by simp [results, Try.results71, go_sem]) rfl ⟨rfl, (by repeat (first | assumption | exact Below.refl _ _ | (refine below_chain ?_ (by assumption) (by first | omega | (simp <;> omega) | simp)) | (refine Below.alloc ?_ (by first | omega | (simp <;> omega) | simp) _) | (apply below_drewN) | (apply below_drew) | (refine Below.setCell ?_ (by first | omega | (simp <;> omega) | simp) _)))⟩
theorem quarter_any (x y : Int) (w : World) (h : ¬ (x = 0 ∧ y = 0)) :
    Calls Try.prog 73 #[.agg #[.int .i64 x, .int .i64 y]] w fun e w' => e = .returned (.int .i64 (Pt.qt x y)) ∧ Below w.heap.size w w' := by
  unfold Pt.qt
  by_cases h1 : 0 ≤ x <;> by_cases h2 : 0 < y <;> by_cases h3 : 0 < x <;> by_cases h4 : y < 0
  all_goals first
    | (exfalso; omega)
    | (have b1 : decide (0 ≤ x) = true := by simpa using h1
       skip)
    | skip
  all_goals
    go_enter Try.func73, Try.ntmps73
    go_wp2
  all_goals go_ret
  all_goals exact ⟨ret_int (by simp [*]), (by repeat (first | assumption | exact Below.refl _ _ | (refine below_chain ?_ (by assumption) (by first | omega | (simp <;> omega) | simp)) | (refine Below.alloc ?_ (by first | omega | (simp <;> omega) | simp) _) | (apply below_drewN) | (apply below_drew) | (refine Below.setCell ?_ (by first | omega | (simp <;> omega) | simp) _)))⟩

theorem bplace_off (x y : Int) (w : World) (h : Pt.sv x y = false) :
    Calls Try.prog 68 #[.agg #[.int .i64 x, .int .i64 y]] w fun e w' => e = .returned (.tuple #[.agg #[.int .i64 0, .int .i64 0], .bool false]) ∧ Below w.heap.size w w' := by
  have c1 := fun w => Lib.hid (istep_is x y false w h)
  clear h
  go_enter Try.func68, Try.ntmps68
  go_wp2_with ((go_at_call 55; (with_reducible refine ((c1 _).out).mono ?_); rintro e wn ⟨rfl, hbn⟩; obtain ⟨hcn, hfn⟩ := bcell hbn; (try simp only [World.size_drew, World.cell?_drew, World.frozen?_drew, World.heap_drewN, World.cell?_drewN, World.frozen?_drewN] at hcn hfn); have hsz := hbn.size; (try simp at hsz); (try have hsl := Nat.lt_of_succ_le hsz); (try have hz0 : w.heap.size < wn.heap.size := (by have := hbn.size; (try simp at this); omega)); (try have hz1 : w.heap.size + 1 < wn.heap.size := (by have := hbn.size; (try simp at this); omega))))
  exact bodyPost_ret (v := .tuple #[.agg #[.int .i64 0, .int .i64 0], .bool false]) (by simp [results, Try.results68, go_sem, *]) rfl ⟨rfl, (by repeat (first | assumption | exact Below.refl _ _ | (refine below_chain ?_ (by assumption) (by first | omega | (simp <;> omega) | simp)) | (refine Below.alloc ?_ (by first | omega | (simp <;> omega) | simp) _) | (apply below_drewN) | (apply below_drew) | (refine Below.setCell ?_ (by first | omega | (simp <;> omega) | simp) _)))⟩
theorem div_is (x y g : Int) (w : World) (h : Pt.sv x y = true) (hg : (Int.gcd x y : Int) = g) :
    Calls Try.prog 62 #[.int .i64 x, .int .i64 y] w fun e w' => e = .returned (.int .i64 g) ∧ ∃ k, w' = w.drewN k := by
  obtain ⟨p1, p2, p3, p4⟩ := Pt.sv_true h
  rw [← hg]
  exact divisor_any x y w (by omega) (by omega) (by omega) (by omega)
theorem bplace_no (x y g : Int) (w : World) (h : Pt.sv x y = true) (hg : (Int.gcd x y : Int) = g) (h1 : g ≠ 1) :
    Calls Try.prog 68 #[.agg #[.int .i64 x, .int .i64 y]] w fun e w' => e = .returned (.tuple #[.agg #[.int .i64 0, .int .i64 0], .bool false]) ∧ Below w.heap.size w w' := by
  have c1 := fun w => Lib.hid (istep_is x y true w h)
  have c2 := fun w => Lib.hid (div_is x y g w h hg)
  have b1 : (g != 1) = true := by simpa using h1
  clear h hg h1
  go_enter Try.func68, Try.ntmps68
  go_wp2_with (first | (go_at_call 55; (with_reducible refine ((c1 _).out).mono ?_); rintro e wn ⟨rfl, hbn⟩; obtain ⟨hcn, hfn⟩ := bcell hbn; (try simp only [World.size_drew, World.cell?_drew, World.frozen?_drew, World.heap_drewN, World.cell?_drewN, World.frozen?_drewN] at hcn hfn); have hsz := hbn.size; (try simp at hsz); (try have hsl := Nat.lt_of_succ_le hsz); (try have hz0 : w.heap.size < wn.heap.size := (by have := hbn.size; (try simp at this); omega)); (try have hz1 : w.heap.size + 1 < wn.heap.size := (by have := hbn.size; (try simp at this); omega))) | (go_at_call 62; (with_reducible refine ((c2 _).out).mono ?_); rintro e w' ⟨rfl, k, rfl⟩))
  exact bodyPost_ret (v := .tuple #[.agg #[.int .i64 0, .int .i64 0], .bool false]) (by simp [results, Try.results68, go_sem, *]) rfl ⟨rfl, (by repeat (first | assumption | exact Below.refl _ _ | (refine below_chain ?_ (by assumption) (by first | omega | (simp <;> omega) | simp)) | (refine Below.alloc ?_ (by first | omega | (simp <;> omega) | simp) _) | (apply below_drewN) | (apply below_drew) | (refine Below.setCell ?_ (by first | omega | (simp <;> omega) | simp) _)))⟩
theorem bplace_yes (x y : Int) (w : World) (h : Pt.sv x y = true) (hg : (Int.gcd x y : Int) = 1) :
    Calls Try.prog 68 #[.agg #[.int .i64 x, .int .i64 y]] w fun e w' => e = .returned (.tuple #[.agg #[.int .i64 x, .int .i64 y], .bool true]) ∧ Below w.heap.size w w' := by
  have c1 := fun w => Lib.hid (istep_is x y true w h)
  have c2 := fun w => Lib.hid (div_is x y 1 w h hg)
  clear h hg
  go_enter Try.func68, Try.ntmps68
  go_wp2_with (first | (go_at_call 55; (with_reducible refine ((c1 _).out).mono ?_); rintro e wn ⟨rfl, hbn⟩; obtain ⟨hcn, hfn⟩ := bcell hbn; (try simp only [World.size_drew, World.cell?_drew, World.frozen?_drew, World.heap_drewN, World.cell?_drewN, World.frozen?_drewN] at hcn hfn); have hsz := hbn.size; (try simp at hsz); (try have hsl := Nat.lt_of_succ_le hsz); (try have hz0 : w.heap.size < wn.heap.size := (by have := hbn.size; (try simp at this); omega)); (try have hz1 : w.heap.size + 1 < wn.heap.size := (by have := hbn.size; (try simp at this); omega))) | (go_at_call 62; (with_reducible refine ((c2 _).out).mono ?_); rintro e w' ⟨rfl, k, rfl⟩) | (go_at_call 50; (with_reducible refine (placeOf_any x y _).mono ?_); rintro e wp ⟨rfl, hbn⟩; obtain ⟨hcn, hfn⟩ := bcell hbn; (try simp only [World.size_drew, World.cell?_drew, World.frozen?_drew, World.heap_drewN, World.cell?_drewN, World.frozen?_drewN] at hcn hfn); have hsz := hbn.size; (try simp at hsz); (try have hsl := Nat.lt_of_succ_le hsz); (try have hz0 : w.heap.size < wp.heap.size := (by have := hbn.size; (try simp at this); omega)); (try have hz1 : w.heap.size + 1 < wp.heap.size := (by have := hbn.size; (try simp at this); omega)); (try have hz2 : wp.heap.size < wp.heap.size := (by have := hbn.size; (try simp at this); omega))))
  exact bodyPost_ret (v := .tuple #[.agg #[.int .i64 x, .int .i64 y], .bool true]) (by simp [results, Try.results68, go_sem, *]) rfl ⟨rfl, (by repeat (first | assumption | exact Below.refl _ _ | (refine below_chain ?_ (by assumption) (by first | omega | (simp <;> omega) | simp)) | (refine Below.alloc ?_ (by first | omega | (simp <;> omega) | simp) _) | (apply below_drewN) | (apply below_drew) | (refine Below.setCell ?_ (by first | omega | (simp <;> omega) | simp) _)))⟩
theorem bplace_nob (x y : Int) (w : World) (h : Pt.br x y = false) :
    Calls Try.prog 68 #[.agg #[.int .i64 x, .int .i64 y]] w fun e w' => e = .returned (.tuple #[.agg #[.int .i64 0, .int .i64 0], .bool false]) ∧ Below w.heap.size w w' := by
  by_cases h1 : Pt.sv x y = true
  · refine bplace_no x y _ w h1 rfl ?_
    unfold Pt.br at h; simp [h1] at h; omega
  · exact bplace_off x y w (by simpa using h1)
theorem bplace_is (x y : Int) (w : World) (h : Pt.br x y = true) :
    Calls Try.prog 68 #[.agg #[.int .i64 x, .int .i64 y]] w fun e w' => e = .returned (.tuple #[.agg #[.int .i64 x, .int .i64 y], .bool true]) ∧ Below w.heap.size w w' := by
  obtain ⟨h1, h2⟩ := Pt.br_true h
  exact bplace_yes x y w h1 (by omega)
theorem iBack_no (x y : Int) (w : World) (h : Pt.br x y = false) :
    Calls Try.prog 35 #[.agg #[.int .i64 x, .int .i64 y]] w fun e w' => e = .returned (.tuple #[.agg #[.int .i64 0, .int .i64 0], .bool false]) ∧ Below w.heap.size w w' := by
  have c1 := fun w => Lib.hid (bplace_nob x y w h)
  clear h
  go_enter Try.func35, Try.ntmps35
  go_wp2_with ((go_at_call 68; (with_reducible refine ((c1 _).out).mono ?_); rintro e wn ⟨rfl, hbn⟩; obtain ⟨hcn, hfn⟩ := bcell hbn; (try simp only [World.size_drew, World.cell?_drew, World.frozen?_drew, World.heap_drewN, World.cell?_drewN, World.frozen?_drewN] at hcn hfn); have hsz := hbn.size; (try simp at hsz); (try have hsl := Nat.lt_of_succ_le hsz); (try have hz0 : w.heap.size < wn.heap.size := (by have := hbn.size; (try simp at this); omega)); (try have hz1 : w.heap.size + 1 < wn.heap.size := (by have := hbn.size; (try simp at this); omega))))
  exact bodyPost_ret (v := .tuple #[.agg #[.int .i64 0, .int .i64 0], .bool false]) (by simp [results, Try.results35, go_sem, *]) rfl ⟨rfl, (by repeat (first | assumption | exact Below.refl _ _ | (refine below_chain ?_ (by assumption) (by first | omega | (simp <;> omega) | simp)) | (refine Below.alloc ?_ (by first | omega | (simp <;> omega) | simp) _) | (apply below_drewN) | (apply below_drew) | (refine Below.setCell ?_ (by first | omega | (simp <;> omega) | simp) _)))⟩
theorem iBack_yes (x y : Int) (w : World) (h : Pt.br x y = true) :
    Calls Try.prog 35 #[.agg #[.int .i64 x, .int .i64 y]] w fun e w' => e = .returned (.tuple #[.agg #[.int .i64 (-x), .int .i64 (-y)], .bool true]) ∧ Below w.heap.size w w' := by
  have c1 := fun w => Lib.hid (bplace_is x y w h)
  have c2 := fun w => Lib.hid (opposite_any x y w (Pt.br_true h).1)
  clear h
  go_enter Try.func35, Try.ntmps35
  go_wp2_with (first | (go_at_call 68; (with_reducible refine ((c1 _).out).mono ?_); rintro e wn ⟨rfl, hbn⟩; obtain ⟨hcn, hfn⟩ := bcell hbn; (try simp only [World.size_drew, World.cell?_drew, World.frozen?_drew, World.heap_drewN, World.cell?_drewN, World.frozen?_drewN] at hcn hfn); have hsz := hbn.size; (try simp at hsz); (try have hsl := Nat.lt_of_succ_le hsz); (try have hz0 : w.heap.size < wn.heap.size := (by have := hbn.size; (try simp at this); omega)); (try have hz1 : w.heap.size + 1 < wn.heap.size := (by have := hbn.size; (try simp at this); omega))) | (go_at_call 69; (with_reducible refine ((c2 _).out).mono ?_); rintro e wo ⟨rfl, hbn⟩; obtain ⟨hcn, hfn⟩ := bcell hbn; (try simp only [World.size_drew, World.cell?_drew, World.frozen?_drew, World.heap_drewN, World.cell?_drewN, World.frozen?_drewN] at hcn hfn); have hsz := hbn.size; (try simp at hsz); (try have hsl := Nat.lt_of_succ_le hsz); (try have hz0 : w.heap.size < wo.heap.size := (by have := hbn.size; (try simp at this); omega)); (try have hz1 : w.heap.size + 1 < wo.heap.size := (by have := hbn.size; (try simp at this); omega)); (try have hz2 : wo.heap.size < wo.heap.size := (by have := hbn.size; (try simp at this); omega))) | (go_at_call 52; (with_reducible refine (point_any _ _ _).mono ?_); rintro e wp ⟨rfl, hbn⟩; obtain ⟨hcn, hfn⟩ := bcell hbn; (try simp only [World.size_drew, World.cell?_drew, World.frozen?_drew, World.heap_drewN, World.cell?_drewN, World.frozen?_drewN] at hcn hfn); have hsz := hbn.size; (try simp at hsz); (try have hsl := Nat.lt_of_succ_le hsz); (try have hz0 : w.heap.size < wp.heap.size := (by have := hbn.size; (try simp at this); omega)); (try have hz1 : w.heap.size + 1 < wp.heap.size := (by have := hbn.size; (try simp at this); omega)); (try have hz2 : wp.heap.size < wp.heap.size := (by have := hbn.size; (try simp at this); omega))))
  exact bodyPost_ret (v := .tuple #[.agg #[.int .i64 (-x), .int .i64 (-y)], .bool true]) (by simp [results, Try.results35, go_sem, *]) rfl ⟨rfl, (by repeat (first | assumption | exact Below.refl _ _ | (refine below_chain ?_ (by assumption) (by first | omega | (simp <;> omega) | simp)) | (refine Below.alloc ?_ (by first | omega | (simp <;> omega) | simp) _) | (apply below_drewN) | (apply below_drew) | (refine Below.setCell ?_ (by first | omega | (simp <;> omega) | simp) _)))⟩
theorem iQuarter_no (x y : Int) (w : World) (h : Pt.br x y = false) :
    Calls Try.prog 39 #[.agg #[.int .i64 x, .int .i64 y]] w fun e w' => e = .returned (.tuple #[.int .i64 0, .bool false]) ∧ Below w.heap.size w w' := by
  have c1 := fun w => Lib.hid (bplace_nob x y w h)
  clear h
  go_enter Try.func39, Try.ntmps39
  go_wp2_with ((go_at_call 68; (with_reducible refine ((c1 _).out).mono ?_); rintro e wn ⟨rfl, hbn⟩; obtain ⟨hcn, hfn⟩ := bcell hbn; (try simp only [World.size_drew, World.cell?_drew, World.frozen?_drew, World.heap_drewN, World.cell?_drewN, World.frozen?_drewN] at hcn hfn); have hsz := hbn.size; (try simp at hsz); (try have hsl := Nat.lt_of_succ_le hsz); (try have hz0 : w.heap.size < wn.heap.size := (by have := hbn.size; (try simp at this); omega)); (try have hz1 : w.heap.size + 1 < wn.heap.size := (by have := hbn.size; (try simp at this); omega))))
  go_ret2
  exact ⟨rfl, (by repeat (first | assumption | exact Below.refl _ _ | (refine below_chain ?_ (by assumption) (by first | omega | (simp <;> omega) | simp)) | (refine Below.alloc ?_ (by first | omega | (simp <;> omega) | simp) _) | (apply below_drewN) | (apply below_drew) | (refine Below.setCell ?_ (by first | omega | (simp <;> omega) | simp) _)))⟩
theorem iQuarter_yes (x y : Int) (w : World) (h : Pt.br x y = true) :
    Calls Try.prog 39 #[.agg #[.int .i64 x, .int .i64 y]] w fun e w' => e = .returned (.tuple #[.int .i64 (Pt.qt x y), .bool true]) ∧ Below w.heap.size w w' := by
  have c1 := fun w => Lib.hid (bplace_is x y w h)
  have c2 := fun w => Lib.hid (quarter_any x y w (Pt.br_nz h))
  clear h
  go_enter Try.func39, Try.ntmps39
  go_wp2_with (first | (go_at_call 68; (with_reducible refine ((c1 _).out).mono ?_); rintro e wn ⟨rfl, hbn⟩; obtain ⟨hcn, hfn⟩ := bcell hbn; (try simp only [World.size_drew, World.cell?_drew, World.frozen?_drew, World.heap_drewN, World.cell?_drewN, World.frozen?_drewN] at hcn hfn); have hsz := hbn.size; (try simp at hsz); (try have hsl := Nat.lt_of_succ_le hsz); (try have hz0 : w.heap.size < wn.heap.size := (by have := hbn.size; (try simp at this); omega)); (try have hz1 : w.heap.size + 1 < wn.heap.size := (by have := hbn.size; (try simp at this); omega))) | (go_at_call 73; (with_reducible refine ((c2 _).out).mono ?_); rintro e wo ⟨rfl, hbn⟩; obtain ⟨hcn, hfn⟩ := bcell hbn; (try simp only [World.size_drew, World.cell?_drew, World.frozen?_drew, World.heap_drewN, World.cell?_drewN, World.frozen?_drewN] at hcn hfn); have hsz := hbn.size; (try simp at hsz); (try have hsl := Nat.lt_of_succ_le hsz); (try have hz0 : w.heap.size < wo.heap.size := (by have := hbn.size; (try simp at this); omega)); (try have hz1 : w.heap.size + 1 < wo.heap.size := (by have := hbn.size; (try simp at this); omega)); (try have hz2 : wo.heap.size < wo.heap.size := (by have := hbn.size; (try simp at this); omega))))
  go_ret2
  exact ⟨rfl, (by repeat (first | assumption | exact Below.refl _ _ | (refine below_chain ?_ (by assumption) (by first | omega | (simp <;> omega) | simp)) | (refine Below.alloc ?_ (by first | omega | (simp <;> omega) | simp) _) | (apply below_drewN) | (apply below_drew) | (refine Below.setCell ?_ (by first | omega | (simp <;> omega) | simp) _)))⟩

theorem iOf_off (x y : Int) (w : World) (h : Pt.sv x y = false) :
    Calls Try.prog 33 #[.agg #[.int .i64 x, .int .i64 y]] w fun e w' => e = .returned (.tuple #[.agg #[.int .i64 0, .int .i64 0], .bool false]) ∧ Below w.heap.size w w' := by
  have c1 := fun w => Lib.hid (istep_is x y _ w h)
  clear h
  go_enter Try.func33, Try.ntmps33
  go_wp2_with ((go_at_call 55; (with_reducible refine ((c1 _).out).mono ?_); rintro e wn ⟨rfl, hbn⟩; obtain ⟨hcn, hfn⟩ := bcell hbn; (try simp only [World.size_drew, World.cell?_drew, World.frozen?_drew, World.heap_drewN, World.cell?_drewN, World.frozen?_drewN] at hcn hfn); have hsz := hbn.size; (try simp at hsz); (try have hsl := Nat.lt_of_succ_le hsz); (try have hz0 : w.heap.size < wn.heap.size := (by have := hbn.size; (try simp at this); omega)); (try have hz1 : w.heap.size + 1 < wn.heap.size := (by have := hbn.size; (try simp at this); omega))))
  exact bodyPost_ret (v := .tuple #[.agg #[.int .i64 0, .int .i64 0], .bool false]) (by simp [results, Try.results33, go_sem, *]) rfl ⟨rfl, (by repeat (first | assumption | exact Below.refl _ _ | (refine below_chain ?_ (by assumption) (by first | omega | (simp <;> omega) | simp)) | (refine Below.alloc ?_ (by first | omega | (simp <;> omega) | simp) _) | (apply below_drewN) | (apply below_drew) | (refine Below.setCell ?_ (by first | omega | (simp <;> omega) | simp) _)))⟩
theorem iOf_zero (w : World) :
    Calls Try.prog 33 #[.agg #[.int .i64 0, .int .i64 0]] w fun e w' => e = .returned (.tuple #[.agg #[.int .i64 0, .int .i64 0], .bool false]) ∧ Below w.heap.size w w' := by
  have c1 := fun w => Lib.hid (istep_is 0 0 true w (by decide))
  go_enter Try.func33, Try.ntmps33
  go_wp2_with ((go_at_call 55; (with_reducible refine ((c1 _).out).mono ?_); rintro e wn ⟨rfl, hbn⟩; obtain ⟨hcn, hfn⟩ := bcell hbn; (try simp only [World.size_drew, World.cell?_drew, World.frozen?_drew, World.heap_drewN, World.cell?_drewN, World.frozen?_drewN] at hcn hfn); have hsz := hbn.size; (try simp at hsz); (try have hsl := Nat.lt_of_succ_le hsz); (try have hz0 : w.heap.size < wn.heap.size := (by have := hbn.size; (try simp at this); omega)); (try have hz1 : w.heap.size + 1 < wn.heap.size := (by have := hbn.size; (try simp at this); omega))))
  exact bodyPost_ret (v := .tuple #[.agg #[.int .i64 0, .int .i64 0], .bool false]) (by simp [results, Try.results33, go_sem, *]) rfl ⟨rfl, (by repeat (first | assumption | exact Below.refl _ _ | (refine below_chain ?_ (by assumption) (by first | omega | (simp <;> omega) | simp)) | (refine Below.alloc ?_ (by first | omega | (simp <;> omega) | simp) _) | (apply below_drewN) | (apply below_drew) | (refine Below.setCell ?_ (by first | omega | (simp <;> omega) | simp) _)))⟩
theorem iOf_yes (x y g : Int) (w : World) (h : Pt.sv x y = true) (h0 : ¬ (x = 0 ∧ y = 0)) (hg : (Int.gcd x y : Int) = g) :
    Calls Try.prog 33 #[.agg #[.int .i64 x, .int .i64 y]] w fun e w' => e = .returned (.tuple #[.agg #[.int .i64 (x.tdiv g), .int .i64 (y.tdiv g)], .bool true]) ∧ Below w.heap.size w w' := by
  obtain ⟨p1, p2, p3, p4⟩ := Pt.sv_true h
  have c1 := fun w => Lib.hid (istep_is x y true w h)
  have c2 := fun w => Lib.hid (div_is x y g w h hg)
  have hp : 0 < g := by rw [← hg]; exact Pt.gcd_pos h0
  clear h hg
  by_cases hx : x = 0
  · subst hx
    have hy : ¬ y = 0 := by omega
    clear h0
    go_enter Try.func33, Try.ntmps33
    go_wp2_with (first | (go_at_call 55; (with_reducible refine ((c1 _).out).mono ?_); rintro e wn ⟨rfl, hbn⟩; obtain ⟨hcn, hfn⟩ := bcell hbn; (try simp only [World.size_drew, World.cell?_drew, World.frozen?_drew, World.heap_drewN, World.cell?_drewN, World.frozen?_drewN] at hcn hfn); have hsz := hbn.size; (try simp at hsz); (try have hsl := Nat.lt_of_succ_le hsz); (try have hz0 : w.heap.size < wn.heap.size := (by have := hbn.size; (try simp at this); omega)); (try have hz1 : w.heap.size + 1 < wn.heap.size := (by have := hbn.size; (try simp at this); omega))) | (go_at_call 62; (with_reducible refine ((c2 _).out).mono ?_); rintro e w' ⟨rfl, k, rfl⟩))
    (refine wp_region_grows_tail 9 (by kernel_rfl) (by kernel_rfl) ?_; simp only [List.take_succ_cons, List.take_zero, List.drop_succ_cons, List.drop_zero]; intro W_wk hWc_wk hWs_wk hWe_wk; (repeat (go_big_quiet_step (fail))); with_reducible refine wpQuiet_nil ?_; clear hWe_wk hWs_wk hWc_wk W_wk; intro wk hb_wk; obtain ⟨hc_wk, hf_wk⟩ := bcell hb_wk; (try simp only [World.size_drew, World.cell?_drew, World.frozen?_drew, World.heap_drewN, World.cell?_drewN, World.frozen?_drewN] at hc_wk hf_wk); have hs_wk := hb_wk.size; (try simp at hs_wk); (try have hz_wk0 : w.heap.size < wk.heap.size := (by have := hb_wk.size; (try simp at this); omega)); (try have hz_wk1 : w.heap.size + 1 < wk.heap.size := (by have := hb_wk.size; (try simp at this); omega)))
    go_wp2
    exact bodyPost_ret (v := .tuple #[.agg #[.int .i64 (Int.tdiv 0 g), .int .i64 (y.tdiv g)], .bool true]) (by simp [results, Try.results33, go_sem, *]) rfl ⟨rfl, (by repeat (first | assumption | exact Below.refl _ _ | (refine below_chain ?_ (by assumption) (by first | omega | (simp <;> omega) | simp)) | (refine Below.alloc ?_ (by first | omega | (simp <;> omega) | simp) _) | (apply below_drewN) | (apply below_drew) | (refine Below.setCell ?_ (by first | omega | (simp <;> omega) | simp) _)))⟩
  · clear h0
    go_enter Try.func33, Try.ntmps33
    go_wp2_with (first | (go_at_call 55; (with_reducible refine ((c1 _).out).mono ?_); rintro e wn ⟨rfl, hbn⟩; obtain ⟨hcn, hfn⟩ := bcell hbn; (try simp only [World.size_drew, World.cell?_drew, World.frozen?_drew, World.heap_drewN, World.cell?_drewN, World.frozen?_drewN] at hcn hfn); have hsz := hbn.size; (try simp at hsz); (try have hsl := Nat.lt_of_succ_le hsz); (try have hz0 : w.heap.size < wn.heap.size := (by have := hbn.size; (try simp at this); omega)); (try have hz1 : w.heap.size + 1 < wn.heap.size := (by have := hbn.size; (try simp at this); omega))) | (go_at_call 62; (with_reducible refine ((c2 _).out).mono ?_); rintro e w' ⟨rfl, k, rfl⟩))
    (refine wp_region_grows_tail 9 (by kernel_rfl) (by kernel_rfl) ?_; simp only [List.take_succ_cons, List.take_zero, List.drop_succ_cons, List.drop_zero]; intro W_wk hWc_wk hWs_wk hWe_wk; (repeat (go_big_quiet_step (fail))); with_reducible refine wpQuiet_nil ?_; clear hWe_wk hWs_wk hWc_wk W_wk; intro wk hb_wk; obtain ⟨hc_wk, hf_wk⟩ := bcell hb_wk; (try simp only [World.size_drew, World.cell?_drew, World.frozen?_drew, World.heap_drewN, World.cell?_drewN, World.frozen?_drewN] at hc_wk hf_wk); have hs_wk := hb_wk.size; (try simp at hs_wk); (try have hz_wk0 : w.heap.size < wk.heap.size := (by have := hb_wk.size; (try simp at this); omega)); (try have hz_wk1 : w.heap.size + 1 < wk.heap.size := (by have := hb_wk.size; (try simp at this); omega)))
    go_wp2
    exact bodyPost_ret (v := .tuple #[.agg #[.int .i64 (x.tdiv g), .int .i64 (y.tdiv g)], .bool true]) (by simp [results, Try.results33, go_sem, *]) rfl ⟨rfl, (by repeat (first | assumption | exact Below.refl _ _ | (refine below_chain ?_ (by assumption) (by first | omega | (simp <;> omega) | simp)) | (refine Below.alloc ?_ (by first | omega | (simp <;> omega) | simp) _) | (apply below_drewN) | (apply below_drew) | (refine Below.setCell ?_ (by first | omega | (simp <;> omega) | simp) _)))⟩
theorem iOf_nob (x y : Int) (w : World) (h : (Pt.sv x y && !(x == 0 && y == 0)) = false) :
    Calls Try.prog 33 #[.agg #[.int .i64 x, .int .i64 y]] w fun e w' => e = .returned (.tuple #[.agg #[.int .i64 0, .int .i64 0], .bool false]) ∧ Below w.heap.size w w' := by
  by_cases hs : Pt.sv x y = true
  · rw [hs] at h
    have : x = 0 ∧ y = 0 := by simpa using h
    obtain ⟨rfl, rfl⟩ := this
    exact iOf_zero w
  · exact iOf_off x y w (by simpa using hs)

theorem q_is (x y n : Int) (w : World) (h : Pt.br x y = true) (hn : Pt.qt x y = n) :
    Calls Try.prog 73 #[.agg #[.int .i64 x, .int .i64 y]] w fun e w' => e = .returned (.int .i64 n) ∧ Below w.heap.size w w' := by
  rw [← hn]; exact quarter_any x y w (Pt.br_nz h)
set_option maxHeartbeats 800000 in
theorem qAhead_is (a b c d m n : Int) (w : World) (h1 : Pt.br a b = true) (h2 : Pt.br c d = true) (hm : Pt.qt a b = m) (hn : Pt.qt c d = n) :
    Calls Try.prog 74 #[.agg #[.int .i64 a, .int .i64 b], .agg #[.int .i64 c, .int .i64 d]] w fun e w' => e = .returned (.bool (decide (m < n))) ∧ Below w.heap.size w w' := by
  have c3 := fun w => Lib.hid (q_is a b m w h1 hm)
  have c4 := fun w => Lib.hid (q_is c d n w h2 hn)
  clear h1 h2 hm hn
  go_enter Try.func74, Try.ntmps74
  go_wp2_with fail
  (refine wp_region_grows (by kernel_rfl) (by kernel_rfl) ?_; intro W_wg hWc_wg hWs_wg hWe_wg; (repeat (go_big_quiet_step (first | (go_at_call 73; with_reducible exact Ext.call ((c3 _).out)) | (go_at_call 73; with_reducible exact Ext.call ((c4 _).out))))); with_reducible refine wpQuiet_nil ?_; clear hWe_wg hWs_wg hWc_wg W_wg; intro wg hb_wg; obtain ⟨hc_wg, hf_wg⟩ := bcell hb_wg; (try simp only [World.size_drew, World.cell?_drew, World.frozen?_drew, World.heap_drewN, World.cell?_drewN, World.frozen?_drewN] at hc_wg hf_wg); have hs_wg := hb_wg.size; (try simp at hs_wg); (try have hz_wg0 : w.heap.size < wg.heap.size := (by have := hb_wg.size; (try simp at this); omega)); (try have hz_wg1 : w.heap.size + 1 < wg.heap.size := (by have := hb_wg.size; (try simp at this); omega)))
  go_wp2_with fail
  go_ret
  exact ⟨rfl, (by repeat (first | assumption | exact Below.refl _ _ | (refine below_chain ?_ (by assumption) (by first | omega | (simp <;> omega) | simp)) | (refine Below.alloc ?_ (by first | omega | (simp <;> omega) | simp) _) | (apply below_drewN) | (apply below_drew) | (refine Below.setCell ?_ (by first | omega | (simp <;> omega) | simp) _)))⟩
theorem sAhead_is (a b c d x : Int) (w : World) (h1 : Pt.br a b = true) (h2 : Pt.br c d = true) (hx : Pt.cr a b c d = x) :
    Calls Try.prog 75 #[.agg #[.int .i64 a, .int .i64 b], .agg #[.int .i64 c, .int .i64 d]] w fun e w' => e = .returned (.bool (decide (x < 0))) ∧ Below w.heap.size w w' := by
  have c5 := fun w => Lib.hid (cross_any a b c d w (Pt.br_true h1).1 (Pt.br_true h2).1)
  rw [hx] at c5
  clear h1 h2 hx
  go_enter Try.func75, Try.ntmps75
  go_wp2_with ((go_at_call 59; (with_reducible refine ((c5 _).out).mono ?_); rintro e wz ⟨rfl, hbn⟩; obtain ⟨hcn, hfn⟩ := bcell hbn; (try simp only [World.size_drew, World.cell?_drew, World.frozen?_drew, World.heap_drewN, World.cell?_drewN, World.frozen?_drewN] at hcn hfn); have hsz := hbn.size; (try simp at hsz); (try have hsl := Nat.lt_of_succ_le hsz); (try have hz0 : w.heap.size < wz.heap.size := (by have := hbn.size; (try simp at this); omega)); (try have hz1 : w.heap.size + 1 < wz.heap.size := (by have := hbn.size; (try simp at this); omega))))
  go_ret
  exact ⟨rfl, (by repeat (first | assumption | exact Below.refl _ _ | (refine below_chain ?_ (by assumption) (by first | omega | (simp <;> omega) | simp)) | (refine Below.alloc ?_ (by first | omega | (simp <;> omega) | simp) _) | (apply below_drewN) | (apply below_drew) | (refine Below.setCell ?_ (by first | omega | (simp <;> omega) | simp) _)))⟩
theorem bplace_if (x y : Int) (p : Bool) (w : World) (h : Pt.br x y = p) :
    Calls Try.prog 68 #[.agg #[.int .i64 x, .int .i64 y]] w fun e w' => e = .returned (.tuple #[.agg #[.int .i64 (if p then x else 0), .int .i64 (if p then y else 0)], .bool p]) ∧ Below w.heap.size w w' := by
  cases p
  · exact bplace_nob x y w h
  · exact bplace_is x y w h
theorem iLess_no (a b c d : Int) (p q : Bool) (w : World) (hp : Pt.br a b = p) (hq : Pt.br c d = q) (h : (p && q) = false) :
    Calls Try.prog 41 #[.agg #[.int .i64 a, .int .i64 b], .agg #[.int .i64 c, .int .i64 d]] w fun e w' => e = .returned (.bool false) ∧ Below w.heap.size w w' := by
  have c1 := fun w => Lib.hid (bplace_if a b p w hp)
  have c2 := fun w => Lib.hid (bplace_if c d q w hq)
  clear hp hq
  cases p <;> cases q
  case true.true => cases h
  all_goals
    go_enter Try.func41, Try.ntmps41
    go_wp2_with (first | (go_at_call 68; (with_reducible refine ((c1 _).out).mono ?_); rintro e wn ⟨rfl, hbn⟩; obtain ⟨hcn, hfn⟩ := bcell hbn; (try simp only [World.size_drew, World.cell?_drew, World.frozen?_drew, World.heap_drewN, World.cell?_drewN, World.frozen?_drewN] at hcn hfn); have hsz := hbn.size; (try simp at hsz); (try have hsl := Nat.lt_of_succ_le hsz); (try have hz0 : w.heap.size < wn.heap.size := (by have := hbn.size; (try simp at this); omega)); (try have hz1 : w.heap.size + 1 < wn.heap.size := (by have := hbn.size; (try simp at this); omega))) | (go_at_call 68; (with_reducible refine ((c2 _).out).mono ?_); rintro e wm ⟨rfl, hbn⟩; obtain ⟨hcn, hfn⟩ := bcell hbn; (try simp only [World.size_drew, World.cell?_drew, World.frozen?_drew, World.heap_drewN, World.cell?_drewN, World.frozen?_drewN] at hcn hfn); have hsz := hbn.size; (try simp at hsz); (try have hsl := Nat.lt_of_succ_le hsz); (try have hz0 : w.heap.size < wm.heap.size := (by have := hbn.size; (try simp at this); omega)); (try have hz1 : w.heap.size + 1 < wm.heap.size := (by have := hbn.size; (try simp at this); omega)); (try have hz2 : wm.heap.size < wm.heap.size := (by have := hbn.size; (try simp at this); omega))))
    go_ret
    exact ⟨rfl, (by repeat (first | assumption | exact Below.refl _ _ | (refine below_chain ?_ (by assumption) (by first | omega | (simp <;> omega) | simp)) | (refine Below.alloc ?_ (by first | omega | (simp <;> omega) | simp) _) | (apply below_drewN) | (apply below_drew) | (refine Below.setCell ?_ (by first | omega | (simp <;> omega) | simp) _)))⟩
set_option maxHeartbeats 800000 in
theorem iLess_far (a b c d m n : Int) (w : World) (h1 : Pt.br a b = true) (h2 : Pt.br c d = true) (hm : Pt.qt a b = m) (hn : Pt.qt c d = n) (hmn : ¬ m = n) :
    Calls Try.prog 41 #[.agg #[.int .i64 a, .int .i64 b], .agg #[.int .i64 c, .int .i64 d]] w fun e w' => e = .returned (.bool (decide (m < n))) ∧ Below w.heap.size w w' := by
  have c1 := fun w => Lib.hid (bplace_is a b w h1)
  have c2 := fun w => Lib.hid (bplace_is c d w h2)
  have c3 := fun w => Lib.hid (q_is a b m w h1 hm)
  have c4 := fun w => Lib.hid (q_is c d n w h2 hn)
  have c5 := fun w => Lib.hid (qAhead_is a b c d m n w h1 h2 hm hn)
  have b1 : (m == n) = false := by simpa using hmn
  clear h1 h2 hm hn hmn
  go_enter Try.func41, Try.ntmps41
  go_wp2_with (first | (go_at_call 68; (with_reducible refine ((c1 _).out).mono ?_); rintro e wn ⟨rfl, hbn⟩; obtain ⟨hcn, hfn⟩ := bcell hbn; (try simp only [World.size_drew, World.cell?_drew, World.frozen?_drew, World.heap_drewN, World.cell?_drewN, World.frozen?_drewN] at hcn hfn); have hsz := hbn.size; (try simp at hsz); (try have hsl := Nat.lt_of_succ_le hsz); (try have hz0 : w.heap.size < wn.heap.size := (by have := hbn.size; (try simp at this); omega)); (try have hz1 : w.heap.size + 1 < wn.heap.size := (by have := hbn.size; (try simp at this); omega))) | (go_at_call 68; (with_reducible refine ((c2 _).out).mono ?_); rintro e wm ⟨rfl, hbn⟩; obtain ⟨hcn, hfn⟩ := bcell hbn; (try simp only [World.size_drew, World.cell?_drew, World.frozen?_drew, World.heap_drewN, World.cell?_drewN, World.frozen?_drewN] at hcn hfn); have hsz := hbn.size; (try simp at hsz); (try have hsl := Nat.lt_of_succ_le hsz); (try have hz0 : w.heap.size < wm.heap.size := (by have := hbn.size; (try simp at this); omega)); (try have hz1 : w.heap.size + 1 < wm.heap.size := (by have := hbn.size; (try simp at this); omega)); (try have hz2 : wm.heap.size < wm.heap.size := (by have := hbn.size; (try simp at this); omega))))
  (refine wp_region_grows (by kernel_rfl) (by kernel_rfl) ?_; intro W_wg hWc_wg hWs_wg hWe_wg; (repeat (go_big_quiet_step (first | (go_at_call 73; with_reducible exact Ext.call ((c3 _).out)) | (go_at_call 73; with_reducible exact Ext.call ((c4 _).out))))); with_reducible refine wpQuiet_nil ?_; clear hWe_wg hWs_wg hWc_wg W_wg; intro wg hb_wg; obtain ⟨hc_wg, hf_wg⟩ := bcell hb_wg; (try simp only [World.size_drew, World.cell?_drew, World.frozen?_drew, World.heap_drewN, World.cell?_drewN, World.frozen?_drewN] at hc_wg hf_wg); have hs_wg := hb_wg.size; (try simp at hs_wg); (try have hz_wg0 : w.heap.size < wg.heap.size := (by have := hb_wg.size; (try simp at this); omega)); (try have hz_wg1 : w.heap.size + 1 < wg.heap.size := (by have := hb_wg.size; (try simp at this); omega)); (try have hz_wg2 : wn.heap.size < wg.heap.size := (by have := hb_wg.size; (try simp at this); omega)); (try have hz_wg3 : wm.heap.size < wg.heap.size := (by have := hb_wg.size; (try simp at this); omega)))
  go_wp2_with ((go_at_call 74; (with_reducible refine ((c5 _).out).mono ?_); rintro e wz ⟨rfl, hbn⟩; obtain ⟨hcn, hfn⟩ := bcell hbn; (try simp only [World.size_drew, World.cell?_drew, World.frozen?_drew, World.heap_drewN, World.cell?_drewN, World.frozen?_drewN] at hcn hfn); have hsz := hbn.size; (try simp at hsz); (try have hsl := Nat.lt_of_succ_le hsz); (try have hz0 : w.heap.size < wz.heap.size := (by have := hbn.size; (try simp at this); omega)); (try have hz1 : w.heap.size + 1 < wz.heap.size := (by have := hbn.size; (try simp at this); omega))))
  go_ret
  exact ⟨rfl, (by repeat (first | assumption | exact Below.refl _ _ | (refine below_chain ?_ (by assumption) (by first | omega | (simp <;> omega) | simp)) | (refine Below.alloc ?_ (by first | omega | (simp <;> omega) | simp) _) | (apply below_drewN) | (apply below_drew) | (refine Below.setCell ?_ (by first | omega | (simp <;> omega) | simp) _)))⟩
set_option maxHeartbeats 800000 in
theorem iLess_near (a b c d m x : Int) (w : World) (h1 : Pt.br a b = true) (h2 : Pt.br c d = true) (hm : Pt.qt a b = m) (hn : Pt.qt c d = m) (hx : Pt.cr a b c d = x) :
    Calls Try.prog 41 #[.agg #[.int .i64 a, .int .i64 b], .agg #[.int .i64 c, .int .i64 d]] w fun e w' => e = .returned (.bool (decide (x < 0))) ∧ Below w.heap.size w w' := by
  have c1 := fun w => Lib.hid (bplace_is a b w h1)
  have c2 := fun w => Lib.hid (bplace_is c d w h2)
  have c3 := fun w => Lib.hid (q_is a b m w h1 hm)
  have c4 := fun w => Lib.hid (q_is c d m w h2 hn)
  have c5 := fun w => Lib.hid (sAhead_is a b c d x w h1 h2 hx)
  clear h1 h2 hm hn hx
  go_enter Try.func41, Try.ntmps41
  go_wp2_with (first | (go_at_call 68; (with_reducible refine ((c1 _).out).mono ?_); rintro e wn ⟨rfl, hbn⟩; obtain ⟨hcn, hfn⟩ := bcell hbn; (try simp only [World.size_drew, World.cell?_drew, World.frozen?_drew, World.heap_drewN, World.cell?_drewN, World.frozen?_drewN] at hcn hfn); have hsz := hbn.size; (try simp at hsz); (try have hsl := Nat.lt_of_succ_le hsz); (try have hz0 : w.heap.size < wn.heap.size := (by have := hbn.size; (try simp at this); omega)); (try have hz1 : w.heap.size + 1 < wn.heap.size := (by have := hbn.size; (try simp at this); omega))) | (go_at_call 68; (with_reducible refine ((c2 _).out).mono ?_); rintro e wm ⟨rfl, hbn⟩; obtain ⟨hcn, hfn⟩ := bcell hbn; (try simp only [World.size_drew, World.cell?_drew, World.frozen?_drew, World.heap_drewN, World.cell?_drewN, World.frozen?_drewN] at hcn hfn); have hsz := hbn.size; (try simp at hsz); (try have hsl := Nat.lt_of_succ_le hsz); (try have hz0 : w.heap.size < wm.heap.size := (by have := hbn.size; (try simp at this); omega)); (try have hz1 : w.heap.size + 1 < wm.heap.size := (by have := hbn.size; (try simp at this); omega)); (try have hz2 : wm.heap.size < wm.heap.size := (by have := hbn.size; (try simp at this); omega))))
  (refine wp_region_grows (by kernel_rfl) (by kernel_rfl) ?_; intro W_wg hWc_wg hWs_wg hWe_wg; (repeat (go_big_quiet_step (first | (go_at_call 73; with_reducible exact Ext.call ((c3 _).out)) | (go_at_call 73; with_reducible exact Ext.call ((c4 _).out))))); with_reducible refine wpQuiet_nil ?_; clear hWe_wg hWs_wg hWc_wg W_wg; intro wg hb_wg; obtain ⟨hc_wg, hf_wg⟩ := bcell hb_wg; (try simp only [World.size_drew, World.cell?_drew, World.frozen?_drew, World.heap_drewN, World.cell?_drewN, World.frozen?_drewN] at hc_wg hf_wg); have hs_wg := hb_wg.size; (try simp at hs_wg); (try have hz_wg0 : w.heap.size < wg.heap.size := (by have := hb_wg.size; (try simp at this); omega)); (try have hz_wg1 : w.heap.size + 1 < wg.heap.size := (by have := hb_wg.size; (try simp at this); omega)); (try have hz_wg2 : wn.heap.size < wg.heap.size := (by have := hb_wg.size; (try simp at this); omega)); (try have hz_wg3 : wm.heap.size < wg.heap.size := (by have := hb_wg.size; (try simp at this); omega)))
  go_wp2_with ((go_at_call 75; (with_reducible refine ((c5 _).out).mono ?_); rintro e wz ⟨rfl, hbn⟩; obtain ⟨hcn, hfn⟩ := bcell hbn; (try simp only [World.size_drew, World.cell?_drew, World.frozen?_drew, World.heap_drewN, World.cell?_drewN, World.frozen?_drewN] at hcn hfn); have hsz := hbn.size; (try simp at hsz); (try have hsl := Nat.lt_of_succ_le hsz); (try have hz0 : w.heap.size < wz.heap.size := (by have := hbn.size; (try simp at this); omega)); (try have hz1 : w.heap.size + 1 < wz.heap.size := (by have := hbn.size; (try simp at this); omega))))
  go_ret
  exact ⟨rfl, (by repeat (first | assumption | exact Below.refl _ _ | (refine below_chain ?_ (by assumption) (by first | omega | (simp <;> omega) | simp)) | (refine Below.alloc ?_ (by first | omega | (simp <;> omega) | simp) _) | (apply below_drewN) | (apply below_drew) | (refine Below.setCell ?_ (by first | omega | (simp <;> omega) | simp) _)))⟩
end Go.Proofs.Ytigmhhdbldlgaaa
