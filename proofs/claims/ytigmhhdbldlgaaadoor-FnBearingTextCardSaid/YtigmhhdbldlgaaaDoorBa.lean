/-
  What the bearings' functions of the program answer, as functions on coordinates.
-/
import Derived.Test.YtigmhhdbldlgaaaDoorPa
import Derived.Test.YtigmhhdbldlgaaaDoorBMath
import Derived.Test.YtigmhhdbldlgaaaDoorRegB
import Derived.Deep.RegionHeld3
import Derived.Deep.DeepCutAuto
namespace Go.Proofs.YtigmhhdbldlgaaaDoor
open Go.RowKit
set_option linter.unusedVariables false

theorem turned_any (x y : Int) (w : World) (h : Pt.sv x y = true) :
    Calls Tryd.prog 18 #[.agg #[.int .i64 x, .int .i64 y]] w fun e w' => e = .returned (.agg #[.int .i64 y, .int .i64 (-x)]) ∧ Below w.heap.size w w' := by
  obtain ⟨p1, p2, p3, p4⟩ := Pt.sv_true h
  clear h
  go_enter Tryd.func18, Tryd.ntmps18
  go_wp2
  exact bodyPost_ret (v := .agg #[.int .i64 y, .int .i64 (-x)]) (by simp [results, Tryd.results18, go_sem]) rfl ⟨rfl, (by repeat (first | assumption | exact Below.refl _ _ | (refine below_chain ?_ (by assumption) (by first | omega | (simp <;> omega) | simp)) | (refine Below.alloc ?_ (by first | omega | (simp <;> omega) | simp) _) | (apply below_drewN) | (apply below_drew) | (refine Below.setCell ?_ (by first | omega | (simp <;> omega) | simp) _)))⟩
theorem bplace_off (x y : Int) (w : World) (h : Pt.sv x y = false) :
    Calls Tryd.prog 12 #[.agg #[.int .i64 x, .int .i64 y]] w fun e w' => e = .returned (.tuple #[.agg #[.int .i64 0, .int .i64 0], .bool false]) ∧ Below w.heap.size w w' := by
  have c1 := fun w => Lib.hid (istep_is x y false w h)
  clear h
  go_enter Tryd.func12, Tryd.ntmps12
  go_wp2_with ((go_at_call 22; (with_reducible refine ((c1 _).out).mono ?_); rintro e wn ⟨rfl, hbn⟩; obtain ⟨hcn, hfn⟩ := bcell hbn; (try simp only [World.size_drew, World.cell?_drew, World.frozen?_drew, World.heap_drewN, World.cell?_drewN, World.frozen?_drewN] at hcn hfn); have hsz := hbn.size; (try simp at hsz); (try have hsl := Nat.lt_of_succ_le hsz); (try have hz0 : w.heap.size < wn.heap.size := (by have := hbn.size; (try simp at this); omega)); (try have hz1 : w.heap.size + 1 < wn.heap.size := (by have := hbn.size; (try simp at this); omega))))
  exact bodyPost_ret (v := .tuple #[.agg #[.int .i64 0, .int .i64 0], .bool false]) (by simp [results, Tryd.results12, go_sem, *]) rfl ⟨rfl, (by repeat (first | assumption | exact Below.refl _ _ | (refine below_chain ?_ (by assumption) (by first | omega | (simp <;> omega) | simp)) | (refine Below.alloc ?_ (by first | omega | (simp <;> omega) | simp) _) | (apply below_drewN) | (apply below_drew) | (refine Below.setCell ?_ (by first | omega | (simp <;> omega) | simp) _)))⟩
theorem div_is (x y g : Int) (w : World) (h : Pt.sv x y = true) (hg : (Int.gcd x y : Int) = g) :
    Calls Tryd.prog 23 #[.int .i64 x, .int .i64 y] w fun e w' => e = .returned (.int .i64 g) ∧ ∃ k, w' = w.drewN k := by
  obtain ⟨p1, p2, p3, p4⟩ := Pt.sv_true h
  rw [← hg]
  exact divisor_any x y w (by omega) (by omega) (by omega) (by omega)
theorem bplace_no (x y g : Int) (w : World) (h : Pt.sv x y = true) (hg : (Int.gcd x y : Int) = g) (h1 : g ≠ 1) :
    Calls Tryd.prog 12 #[.agg #[.int .i64 x, .int .i64 y]] w fun e w' => e = .returned (.tuple #[.agg #[.int .i64 0, .int .i64 0], .bool false]) ∧ Below w.heap.size w w' := by
  have c1 := fun w => Lib.hid (istep_is x y true w h)
  have c2 := fun w => Lib.hid (div_is x y g w h hg)
  have b1 : (g != 1) = true := by simpa using h1
  clear h hg h1
  go_enter Tryd.func12, Tryd.ntmps12
  go_wp2_with (first | (go_at_call 22; (with_reducible refine ((c1 _).out).mono ?_); rintro e wn ⟨rfl, hbn⟩; obtain ⟨hcn, hfn⟩ := bcell hbn; (try simp only [World.size_drew, World.cell?_drew, World.frozen?_drew, World.heap_drewN, World.cell?_drewN, World.frozen?_drewN] at hcn hfn); have hsz := hbn.size; (try simp at hsz); (try have hsl := Nat.lt_of_succ_le hsz); (try have hz0 : w.heap.size < wn.heap.size := (by have := hbn.size; (try simp at this); omega)); (try have hz1 : w.heap.size + 1 < wn.heap.size := (by have := hbn.size; (try simp at this); omega))) | (go_at_call 23; (with_reducible refine ((c2 _).out).mono ?_); rintro e w' ⟨rfl, k, rfl⟩))
  exact bodyPost_ret (v := .tuple #[.agg #[.int .i64 0, .int .i64 0], .bool false]) (by simp [results, Tryd.results12, go_sem, *]) rfl ⟨rfl, (by repeat (first | assumption | exact Below.refl _ _ | (refine below_chain ?_ (by assumption) (by first | omega | (simp <;> omega) | simp)) | (refine Below.alloc ?_ (by first | omega | (simp <;> omega) | simp) _) | (apply below_drewN) | (apply below_drew) | (refine Below.setCell ?_ (by first | omega | (simp <;> omega) | simp) _)))⟩
theorem bplace_yes (x y : Int) (w : World) (h : Pt.sv x y = true) (hg : (Int.gcd x y : Int) = 1) :
    Calls Tryd.prog 12 #[.agg #[.int .i64 x, .int .i64 y]] w fun e w' => e = .returned (.tuple #[.agg #[.int .i64 x, .int .i64 y], .bool true]) ∧ Below w.heap.size w w' := by
  have c1 := fun w => Lib.hid (istep_is x y true w h)
  have c2 := fun w => Lib.hid (div_is x y 1 w h hg)
  clear h hg
  go_enter Tryd.func12, Tryd.ntmps12
  go_wp2_with (first | (go_at_call 22; (with_reducible refine ((c1 _).out).mono ?_); rintro e wn ⟨rfl, hbn⟩; obtain ⟨hcn, hfn⟩ := bcell hbn; (try simp only [World.size_drew, World.cell?_drew, World.frozen?_drew, World.heap_drewN, World.cell?_drewN, World.frozen?_drewN] at hcn hfn); have hsz := hbn.size; (try simp at hsz); (try have hsl := Nat.lt_of_succ_le hsz); (try have hz0 : w.heap.size < wn.heap.size := (by have := hbn.size; (try simp at this); omega)); (try have hz1 : w.heap.size + 1 < wn.heap.size := (by have := hbn.size; (try simp at this); omega))) | (go_at_call 23; (with_reducible refine ((c2 _).out).mono ?_); rintro e w' ⟨rfl, k, rfl⟩) | (go_at_call 24; (with_reducible refine (placeOf_any x y _).mono ?_); rintro e wp ⟨rfl, hbn⟩; obtain ⟨hcn, hfn⟩ := bcell hbn; (try simp only [World.size_drew, World.cell?_drew, World.frozen?_drew, World.heap_drewN, World.cell?_drewN, World.frozen?_drewN] at hcn hfn); have hsz := hbn.size; (try simp at hsz); (try have hsl := Nat.lt_of_succ_le hsz); (try have hz0 : w.heap.size < wp.heap.size := (by have := hbn.size; (try simp at this); omega)); (try have hz1 : w.heap.size + 1 < wp.heap.size := (by have := hbn.size; (try simp at this); omega)); (try have hz2 : wp.heap.size < wp.heap.size := (by have := hbn.size; (try simp at this); omega))))
  exact bodyPost_ret (v := .tuple #[.agg #[.int .i64 x, .int .i64 y], .bool true]) (by simp [results, Tryd.results12, go_sem, *]) rfl ⟨rfl, (by repeat (first | assumption | exact Below.refl _ _ | (refine below_chain ?_ (by assumption) (by first | omega | (simp <;> omega) | simp)) | (refine Below.alloc ?_ (by first | omega | (simp <;> omega) | simp) _) | (apply below_drewN) | (apply below_drew) | (refine Below.setCell ?_ (by first | omega | (simp <;> omega) | simp) _)))⟩
theorem bplace_nob (x y : Int) (w : World) (h : Pt.br x y = false) :
    Calls Tryd.prog 12 #[.agg #[.int .i64 x, .int .i64 y]] w fun e w' => e = .returned (.tuple #[.agg #[.int .i64 0, .int .i64 0], .bool false]) ∧ Below w.heap.size w w' := by
  by_cases h1 : Pt.sv x y = true
  · refine bplace_no x y _ w h1 rfl ?_
    unfold Pt.br at h; simp [h1] at h; omega
  · exact bplace_off x y w (by simpa using h1)
theorem bplace_is (x y : Int) (w : World) (h : Pt.br x y = true) :
    Calls Tryd.prog 12 #[.agg #[.int .i64 x, .int .i64 y]] w fun e w' => e = .returned (.tuple #[.agg #[.int .i64 x, .int .i64 y], .bool true]) ∧ Below w.heap.size w w' := by
  obtain ⟨h1, h2⟩ := Pt.br_true h
  exact bplace_yes x y w h1 (by omega)
theorem bplace_if (x y : Int) (p : Bool) (w : World) (h : Pt.br x y = p) :
    Calls Tryd.prog 12 #[.agg #[.int .i64 x, .int .i64 y]] w fun e w' => e = .returned (.tuple #[.agg #[.int .i64 (if p then x else 0), .int .i64 (if p then y else 0)], .bool p]) ∧ Below w.heap.size w w' := by
  cases p
  · exact bplace_nob x y w h
  · exact bplace_is x y w h
end Go.Proofs.YtigmhhdbldlgaaaDoor
