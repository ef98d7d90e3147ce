/-
  What the reference model's functions on bearings answer, as functions on coordinates.
-/
import Derived.Test.YtigmhhdbldlgaaaDoorPs
import Derived.Test.YtigmhhdbldlgaaaDoorBMath
import Derived.Test.YtigmhhdbldlgaaaDoorRegB
namespace Go.Proofs.YtigmhhdbldlgaaaDoor
open Go.RowKit
set_option linter.unusedVariables false

theorem scommon_is (x y g : Int) (w : World) (h : Pt.sv x y = true) (hg : (Int.gcd x y : Int) = g) :
    Calls Tryd.prog 27 #[.int .i64 (x.natAbs : Int), .int .i64 (y.natAbs : Int)] w fun e w' => e = .returned (.int .i64 g) ∧ w = w' := by
  obtain ⟨p1, p2, p3, p4⟩ := Pt.sv_true h
  have e : ((x.natAbs : Int).gcd (y.natAbs : Int) : Int) = g := by rw [← hg]; simp [Int.gcd]
  rw [← e]
  exact common_any (x.natAbs : Int) (y.natAbs : Int) w (by omega) (by omega) (by omega) (by omega)
theorem ssize_is (x : Int) (w : World) (h1 : -20000 ≤ x) (h2 : x ≤ 20000) :
    Calls Tryd.prog 17 #[.int .i64 x] w fun e w' => e = .returned (.int .i64 (x.natAbs : Int)) ∧ w = w' := size_any x w (by omega) (by omega)

theorem l3b_off (x y : Int) (w : World) (h : Pt.sv x y = false) :
    Calls Tryd.prog 15 #[.agg #[.int .i64 x, .int .i64 y]] w fun e w' => e = .returned (.bool false) ∧ Below w.heap.size w w' := by
  have c1 := fun w => Lib.hid (sstep_is x y false w h)
  clear h
  go_enter Tryd.func15, Tryd.ntmps15
  go_wp2_with fail
  (refine wp_region_grows (by kernel_rfl) (by kernel_rfl) ?_; intro W_wg hWc_wg hWs_wg hWe_wg; (repeat (go_big_quiet_step ((go_at_call 26; with_reducible exact Ext.call ((c1 _).out))))); with_reducible refine wpQuiet_nil ?_; clear hWe_wg hWs_wg hWc_wg W_wg; intro wg hb_wg; obtain ⟨hc_wg, hf_wg⟩ := bcell hb_wg; (try simp only [World.size_drew, World.cell?_drew, World.frozen?_drew, World.heap_drewN, World.cell?_drewN, World.frozen?_drewN] at hc_wg hf_wg); have hs_wg := hb_wg.size; (try simp at hs_wg))
  go_wp2
  go_ret
  exact ⟨rfl, (by repeat (first | assumption | exact Below.refl _ _ | (refine below_chain ?_ (by assumption) (by first | omega | (simp <;> omega) | simp)) | (refine Below.alloc ?_ (by first | omega | (simp <;> omega) | simp) _) | (apply below_drewN) | (apply below_drew) | (refine Below.setCell ?_ (by first | omega | (simp <;> omega) | simp) _)))⟩
theorem l3b_on (x y g : Int) (b : Bool) (w : World) (h : Pt.sv x y = true) (hg : (Int.gcd x y : Int) = g) (hb : (g == 1) = b) :
    Calls Tryd.prog 15 #[.agg #[.int .i64 x, .int .i64 y]] w fun e w' => e = .returned (.bool b) ∧ Below w.heap.size w w' := by
  obtain ⟨p1, p2, p3, p4⟩ := Pt.sv_true h
  have c1 := fun w => Lib.hid (sstep_is x y true w h)
  have c2 := fun w => Lib.hid (ssize_is x w p1 p2)
  have c3 := fun w => Lib.hid (ssize_is y w p3 p4)
  have c4 := fun w => Lib.hid (scommon_is x y g w h hg)
  clear h hg p1 p2 p3 p4
  go_enter Tryd.func15, Tryd.ntmps15
  go_wp2_with fail
  (refine wp_region_grows (by kernel_rfl) (by kernel_rfl) ?_; intro W_wg hWc_wg hWs_wg hWe_wg; (repeat (go_big_quiet_step (first | (go_at_call 26; with_reducible exact Ext.call ((c1 _).out)) | (go_at_call 17; with_reducible exact Ext.call0 ((c2 _).out)) | (go_at_call 17; with_reducible exact Ext.call0 ((c3 _).out)) | (go_at_call 27; with_reducible exact Ext.call0 ((c4 _).out))))); with_reducible refine wpQuiet_nil ?_; clear hWe_wg hWs_wg hWc_wg W_wg; intro wg hb_wg; obtain ⟨hc_wg, hf_wg⟩ := bcell hb_wg; (try simp only [World.size_drew, World.cell?_drew, World.frozen?_drew, World.heap_drewN, World.cell?_drewN, World.frozen?_drewN] at hc_wg hf_wg); have hs_wg := hb_wg.size; (try simp at hs_wg))
  go_wp2
  go_ret
  exact ⟨rfl, (by repeat (first | assumption | exact Below.refl _ _ | (refine below_chain ?_ (by assumption) (by first | omega | (simp <;> omega) | simp)) | (refine Below.alloc ?_ (by first | omega | (simp <;> omega) | simp) _) | (apply below_drewN) | (apply below_drew) | (refine Below.setCell ?_ (by first | omega | (simp <;> omega) | simp) _)))⟩
theorem l3b_any (x y : Int) (w : World) :
    Calls Tryd.prog 15 #[.agg #[.int .i64 x, .int .i64 y]] w fun e w' => e = .returned (.bool (Pt.br x y)) ∧ Below w.heap.size w w' := by
  by_cases h : Pt.sv x y = true
  · refine l3b_on x y _ _ w h rfl ?_
    unfold Pt.br; rw [h, Bool.true_and, Bool.eq_iff_iff]; simp; omega
  · have e : Pt.br x y = false := by unfold Pt.br; simp [h]
    rw [e]; exact l3b_off x y w (by simpa using h)
theorem l3b_is (x y : Int) (b : Bool) (w : World) (hb : Pt.br x y = b) :
    Calls Tryd.prog 15 #[.agg #[.int .i64 x, .int .i64 y]] w fun e w' => e = .returned (.bool b) ∧ Below w.heap.size w w' := by
  rw [← hb]; exact l3b_any x y w
/-- BearingOf -/
theorem sOf_off (x y : Int) (w : World) (h : Pt.sv x y = false) :
    Calls Tryd.prog 21 #[.agg #[.int .i64 x, .int .i64 y]] w fun e w' => e = .returned (.tuple #[.agg #[.int .i64 0, .int .i64 0], .bool false]) ∧ Below w.heap.size w w' := by
  have c1 := fun w => Lib.hid (sstep_is x y _ w h)
  clear h
  go_enter Tryd.func21, Tryd.ntmps21
  go_wp2_with ((go_at_call 26; (with_reducible refine ((c1 _).out).mono ?_); rintro e wn ⟨rfl, hbn⟩; obtain ⟨hcn, hfn⟩ := bcell hbn; (try simp only [World.size_drew, World.cell?_drew, World.frozen?_drew, World.heap_drewN, World.cell?_drewN, World.frozen?_drewN] at hcn hfn); have hsz := hbn.size; (try simp at hsz); (try have hsl := Nat.lt_of_succ_le hsz); (try have hz0 : w.heap.size < wn.heap.size := (by have := hbn.size; (try simp at this); omega)); (try have hz1 : w.heap.size + 1 < wn.heap.size := (by have := hbn.size; (try simp at this); omega))))
  exact bodyPost_ret (v := .tuple #[.agg #[.int .i64 0, .int .i64 0], .bool false]) (by simp [results, Tryd.results21, go_sem, *]) rfl ⟨rfl, (by repeat (first | assumption | exact Below.refl _ _ | (refine below_chain ?_ (by assumption) (by first | omega | (simp <;> omega) | simp)) | (refine Below.alloc ?_ (by first | omega | (simp <;> omega) | simp) _) | (apply below_drewN) | (apply below_drew) | (refine Below.setCell ?_ (by first | omega | (simp <;> omega) | simp) _)))⟩
theorem sOf_zero (w : World) :
    Calls Tryd.prog 21 #[.agg #[.int .i64 0, .int .i64 0]] w fun e w' => e = .returned (.tuple #[.agg #[.int .i64 0, .int .i64 0], .bool false]) ∧ Below w.heap.size w w' := by
  have c1 := fun w => Lib.hid (sstep_is 0 0 true w (by decide))
  go_enter Tryd.func21, Tryd.ntmps21
  go_wp2_with ((go_at_call 26; (with_reducible refine ((c1 _).out).mono ?_); rintro e wn ⟨rfl, hbn⟩; obtain ⟨hcn, hfn⟩ := bcell hbn; (try simp only [World.size_drew, World.cell?_drew, World.frozen?_drew, World.heap_drewN, World.cell?_drewN, World.frozen?_drewN] at hcn hfn); have hsz := hbn.size; (try simp at hsz); (try have hsl := Nat.lt_of_succ_le hsz); (try have hz0 : w.heap.size < wn.heap.size := (by have := hbn.size; (try simp at this); omega)); (try have hz1 : w.heap.size + 1 < wn.heap.size := (by have := hbn.size; (try simp at this); omega))))
  exact bodyPost_ret (v := .tuple #[.agg #[.int .i64 0, .int .i64 0], .bool false]) (by simp [results, Tryd.results21, go_sem, *]) rfl ⟨rfl, (by repeat (first | assumption | exact Below.refl _ _ | (refine below_chain ?_ (by assumption) (by first | omega | (simp <;> omega) | simp)) | (refine Below.alloc ?_ (by first | omega | (simp <;> omega) | simp) _) | (apply below_drewN) | (apply below_drew) | (refine Below.setCell ?_ (by first | omega | (simp <;> omega) | simp) _)))⟩
theorem sOf_yes (x y g : Int) (w : World) (h : Pt.sv x y = true) (h0 : ¬ (x = 0 ∧ y = 0)) (hg : (Int.gcd x y : Int) = g) :
    Calls Tryd.prog 21 #[.agg #[.int .i64 x, .int .i64 y]] w fun e w' => e = .returned (.tuple #[.agg #[.int .i64 (x.tdiv g), .int .i64 (y.tdiv g)], .bool true]) ∧ Below w.heap.size w w' := by
  obtain ⟨p1, p2, p3, p4⟩ := Pt.sv_true h
  have c1 := fun w => Lib.hid (sstep_is x y true w h)
  have c2 := fun w => Lib.hid (ssize_is x w p1 p2)
  have c3 := fun w => Lib.hid (ssize_is y w p3 p4)
  have c4 := fun w => Lib.hid (scommon_is x y g w h hg)
  have hp : 0 < g := by rw [← hg]; exact Pt.gcd_pos h0
  clear h hg
  by_cases hx : x = 0
  · subst hx
    have hy : ¬ y = 0 := by omega
    clear h0
    go_enter Tryd.func21, Tryd.ntmps21
    go_wp2_with ((go_at_call 26; (with_reducible refine ((c1 _).out).mono ?_); rintro e wn ⟨rfl, hbn⟩; obtain ⟨hcn, hfn⟩ := bcell hbn; (try simp only [World.size_drew, World.cell?_drew, World.frozen?_drew, World.heap_drewN, World.cell?_drewN, World.frozen?_drewN] at hcn hfn); have hsz := hbn.size; (try simp at hsz); (try have hsl := Nat.lt_of_succ_le hsz); (try have hz0 : w.heap.size < wn.heap.size := (by have := hbn.size; (try simp at this); omega)); (try have hz1 : w.heap.size + 1 < wn.heap.size := (by have := hbn.size; (try simp at this); omega))))
    (refine wp_region_grows (by kernel_rfl) (by kernel_rfl) ?_; intro W_wg hWc_wg hWs_wg hWe_wg; (repeat (go_big_quiet_step (first | (go_at_call 17; with_reducible exact Ext.call0 ((c2 _).out)) | (go_at_call 17; with_reducible exact Ext.call0 ((c3 _).out)) | (go_at_call 27; exact Ext.call0 ((c4 _).out))))); with_reducible refine wpQuiet_nil ?_; clear hWe_wg hWs_wg hWc_wg W_wg; intro wg hb_wg; obtain ⟨hc_wg, hf_wg⟩ := bcell hb_wg; (try simp only [World.size_drew, World.cell?_drew, World.frozen?_drew, World.heap_drewN, World.cell?_drewN, World.frozen?_drewN] at hc_wg hf_wg); have hs_wg := hb_wg.size; (try simp at hs_wg); (try have hz_wg0 : w.heap.size < wg.heap.size := (by have := hb_wg.size; (try simp at this); omega)); (try have hz_wg1 : w.heap.size + 1 < wg.heap.size := (by have := hb_wg.size; (try simp at this); omega)))
    go_wp2_with fail
    (refine wp_region_grows_tail 9 (by kernel_rfl) (by kernel_rfl) ?_; simp only [List.take_succ_cons, List.take_zero, List.drop_succ_cons, List.drop_zero]; intro W_wk hWc_wk hWs_wk hWe_wk; (repeat (go_big_quiet_step (fail))); with_reducible refine wpQuiet_nil ?_; clear hWe_wk hWs_wk hWc_wk W_wk; intro wk hb_wk; obtain ⟨hc_wk, hf_wk⟩ := bcell hb_wk; (try simp only [World.size_drew, World.cell?_drew, World.frozen?_drew, World.heap_drewN, World.cell?_drewN, World.frozen?_drewN] at hc_wk hf_wk); have hs_wk := hb_wk.size; (try simp at hs_wk); (try have hz_wk0 : w.heap.size < wk.heap.size := (by have := hb_wk.size; (try simp at this); omega)); (try have hz_wk1 : w.heap.size + 1 < wk.heap.size := (by have := hb_wk.size; (try simp at this); omega)))
    go_wp2
    exact bodyPost_ret (v := .tuple #[.agg #[.int .i64 (Int.tdiv 0 g), .int .i64 (y.tdiv g)], .bool true]) (by simp [results, Tryd.results21, go_sem, *]) rfl ⟨rfl, (by repeat (first | assumption | exact Below.refl _ _ | (refine below_chain ?_ (by assumption) (by first | omega | (simp <;> omega) | simp)) | (refine Below.alloc ?_ (by first | omega | (simp <;> omega) | simp) _) | (apply below_drewN) | (apply below_drew) | (refine Below.setCell ?_ (by first | omega | (simp <;> omega) | simp) _)))⟩
  · clear h0
    go_enter Tryd.func21, Tryd.ntmps21
    go_wp2_with ((go_at_call 26; (with_reducible refine ((c1 _).out).mono ?_); rintro e wn ⟨rfl, hbn⟩; obtain ⟨hcn, hfn⟩ := bcell hbn; (try simp only [World.size_drew, World.cell?_drew, World.frozen?_drew, World.heap_drewN, World.cell?_drewN, World.frozen?_drewN] at hcn hfn); have hsz := hbn.size; (try simp at hsz); (try have hsl := Nat.lt_of_succ_le hsz); (try have hz0 : w.heap.size < wn.heap.size := (by have := hbn.size; (try simp at this); omega)); (try have hz1 : w.heap.size + 1 < wn.heap.size := (by have := hbn.size; (try simp at this); omega))))
    (refine wp_region_grows (by kernel_rfl) (by kernel_rfl) ?_; intro W_wg hWc_wg hWs_wg hWe_wg; (repeat (go_big_quiet_step (first | (go_at_call 17; with_reducible exact Ext.call0 ((c2 _).out)) | (go_at_call 17; with_reducible exact Ext.call0 ((c3 _).out)) | (go_at_call 27; with_reducible exact Ext.call0 ((c4 _).out))))); with_reducible refine wpQuiet_nil ?_; clear hWe_wg hWs_wg hWc_wg W_wg; intro wg hb_wg; obtain ⟨hc_wg, hf_wg⟩ := bcell hb_wg; (try simp only [World.size_drew, World.cell?_drew, World.frozen?_drew, World.heap_drewN, World.cell?_drewN, World.frozen?_drewN] at hc_wg hf_wg); have hs_wg := hb_wg.size; (try simp at hs_wg); (try have hz_wg0 : w.heap.size < wg.heap.size := (by have := hb_wg.size; (try simp at this); omega)); (try have hz_wg1 : w.heap.size + 1 < wg.heap.size := (by have := hb_wg.size; (try simp at this); omega)))
    go_wp2_with fail
    (refine wp_region_grows_tail 9 (by kernel_rfl) (by kernel_rfl) ?_; simp only [List.take_succ_cons, List.take_zero, List.drop_succ_cons, List.drop_zero]; intro W_wk hWc_wk hWs_wk hWe_wk; (repeat (go_big_quiet_step (fail))); with_reducible refine wpQuiet_nil ?_; clear hWe_wk hWs_wk hWc_wk W_wk; intro wk hb_wk; obtain ⟨hc_wk, hf_wk⟩ := bcell hb_wk; (try simp only [World.size_drew, World.cell?_drew, World.frozen?_drew, World.heap_drewN, World.cell?_drewN, World.frozen?_drewN] at hc_wk hf_wk); have hs_wk := hb_wk.size; (try simp at hs_wk); (try have hz_wk0 : w.heap.size < wk.heap.size := (by have := hb_wk.size; (try simp at this); omega)); (try have hz_wk1 : w.heap.size + 1 < wk.heap.size := (by have := hb_wk.size; (try simp at this); omega)))
    go_wp2
    exact bodyPost_ret (v := .tuple #[.agg #[.int .i64 (x.tdiv g), .int .i64 (y.tdiv g)], .bool true]) (by simp [results, Tryd.results21, go_sem, *]) rfl ⟨rfl, (by repeat (first | assumption | exact Below.refl _ _ | (refine below_chain ?_ (by assumption) (by first | omega | (simp <;> omega) | simp)) | (refine Below.alloc ?_ (by first | omega | (simp <;> omega) | simp) _) | (apply below_drewN) | (apply below_drew) | (refine Below.setCell ?_ (by first | omega | (simp <;> omega) | simp) _)))⟩

theorem sOf_nob (x y : Int) (w : World) (h : (Pt.sv x y && !(x == 0 && y == 0)) = false) :
    Calls Tryd.prog 21 #[.agg #[.int .i64 x, .int .i64 y]] w fun e w' => e = .returned (.tuple #[.agg #[.int .i64 0, .int .i64 0], .bool false]) ∧ Below w.heap.size w w' := by
  by_cases hs : Pt.sv x y = true
  · rw [hs] at h
    have : x = 0 ∧ y = 0 := by simpa using h
    obtain ⟨rfl, rfl⟩ := this
    exact sOf_zero w
  · exact sOf_off x y w (by simpa using hs)

end Go.Proofs.YtigmhhdbldlgaaaDoor
