/-
  What the reference model's functions on bearings answer, as functions on coordinates.
-/
import Derived.Test.YtigmhhdbldlgaaaPs
import Derived.Test.YtigmhhdbldlgaaaBMath
import Derived.Test.YtigmhhdbldlgaaaRegB
namespace Go.Proofs.Ytigmhhdbldlgaaa
open Go.RowKit
set_option linter.unusedVariables false

theorem l3Quarter_any (x y : Int) (w : World) (h : ¬ (x = 0 ∧ y = 0)) :
    Calls Try.prog 76 #[.agg #[.int .i64 x, .int .i64 y]] w fun e w' => e = .returned (.int .i64 (Pt.qt x y)) ∧ Below w.heap.size w w' := by
  unfold Pt.qt
  by_cases h1 : 0 ≤ x <;> by_cases h2 : 0 < y <;> by_cases h3 : 0 < x <;> by_cases h4 : y < 0
  all_goals first
    | (exfalso; omega)
    | skip
  all_goals
    go_enter Try.func76, Try.ntmps76
    go_wp2
  all_goals go_ret
  all_goals exact ⟨ret_int (by simp [*]), (by repeat (first | assumption | exact Below.refl _ _ | (refine below_chain ?_ (by assumption) (by first | omega | (simp <;> omega) | simp)) | (refine Below.alloc ?_ (by first | omega | (simp <;> omega) | simp) _) | (apply below_drewN) | (apply below_drew) | (refine Below.setCell ?_ (by first | omega | (simp <;> omega) | simp) _)))⟩

theorem scommon_is (x y g : Int) (w : World) (h : Pt.sv x y = true) (hg : (Int.gcd x y : Int) = g) :
    Calls Try.prog 63 #[.int .i64 (x.natAbs : Int), .int .i64 (y.natAbs : Int)] w fun e w' => e = .returned (.int .i64 g) ∧ w = w' := by
  obtain ⟨p1, p2, p3, p4⟩ := Pt.sv_true h
  have e : ((x.natAbs : Int).gcd (y.natAbs : Int) : Int) = g := by rw [← hg]; simp [Int.gcd]
  rw [← e]
  exact common_any (x.natAbs : Int) (y.natAbs : Int) w (by omega) (by omega) (by omega) (by omega)
theorem ssize_is (x : Int) (w : World) (h1 : -20000 ≤ x) (h2 : x ≤ 20000) :
    Calls Try.prog 64 #[.int .i64 x] w fun e w' => e = .returned (.int .i64 (x.natAbs : Int)) ∧ w = w' := size_any x w (by omega) (by omega)

theorem l3b_off (x y : Int) (w : World) (h : Pt.sv x y = false) :
    Calls Try.prog 72 #[.agg #[.int .i64 x, .int .i64 y]] w fun e w' => e = .returned (.bool false) ∧ Below w.heap.size w w' := by
  have c1 := fun w => Lib.hid (sstep_is x y false w h)
  clear h
  go_enter Try.func72, Try.ntmps72
  go_wp2_with fail
  (refine wp_region_grows (by kernel_rfl) (by kernel_rfl) ?_; intro W_wg hWc_wg hWs_wg hWe_wg; (repeat (go_big_quiet_step ((go_at_call 67; with_reducible exact Ext.call ((c1 _).out))))); with_reducible refine wpQuiet_nil ?_; clear hWe_wg hWs_wg hWc_wg W_wg; intro wg hb_wg; obtain ⟨hc_wg, hf_wg⟩ := bcell hb_wg; (try simp only [World.size_drew, World.cell?_drew, World.frozen?_drew, World.heap_drewN, World.cell?_drewN, World.frozen?_drewN] at hc_wg hf_wg); have hs_wg := hb_wg.size; (try simp at hs_wg))
  go_wp2
  go_ret
  exact ⟨rfl, (by repeat (first | assumption | exact Below.refl _ _ | (refine below_chain ?_ (by assumption) (by first | omega | (simp <;> omega) | simp)) | (refine Below.alloc ?_ (by first | omega | (simp <;> omega) | simp) _) | (apply below_drewN) | (apply below_drew) | (refine Below.setCell ?_ (by first | omega | (simp <;> omega) | simp) _)))⟩
theorem l3b_on (x y g : Int) (b : Bool) (w : World) (h : Pt.sv x y = true) (hg : (Int.gcd x y : Int) = g) (hb : (g == 1) = b) :
    Calls Try.prog 72 #[.agg #[.int .i64 x, .int .i64 y]] w fun e w' => e = .returned (.bool b) ∧ Below w.heap.size w w' := by
  obtain ⟨p1, p2, p3, p4⟩ := Pt.sv_true h
  have c1 := fun w => Lib.hid (sstep_is x y true w h)
  have c2 := fun w => Lib.hid (ssize_is x w p1 p2)
  have c3 := fun w => Lib.hid (ssize_is y w p3 p4)
  have c4 := fun w => Lib.hid (scommon_is x y g w h hg)
  clear h hg p1 p2 p3 p4
  go_enter Try.func72, Try.ntmps72
  go_wp2_with fail
  (refine wp_region_grows (by kernel_rfl) (by kernel_rfl) ?_; intro W_wg hWc_wg hWs_wg hWe_wg; (repeat (go_big_quiet_step (first | (go_at_call 67; with_reducible exact Ext.call ((c1 _).out)) | (go_at_call 64; with_reducible exact Ext.call0 ((c2 _).out)) | (go_at_call 64; with_reducible exact Ext.call0 ((c3 _).out)) | (go_at_call 63; with_reducible exact Ext.call0 ((c4 _).out))))); with_reducible refine wpQuiet_nil ?_; clear hWe_wg hWs_wg hWc_wg W_wg; intro wg hb_wg; obtain ⟨hc_wg, hf_wg⟩ := bcell hb_wg; (try simp only [World.size_drew, World.cell?_drew, World.frozen?_drew, World.heap_drewN, World.cell?_drewN, World.frozen?_drewN] at hc_wg hf_wg); have hs_wg := hb_wg.size; (try simp at hs_wg))
  go_wp2
  go_ret
  exact ⟨rfl, (by repeat (first | assumption | exact Below.refl _ _ | (refine below_chain ?_ (by assumption) (by first | omega | (simp <;> omega) | simp)) | (refine Below.alloc ?_ (by first | omega | (simp <;> omega) | simp) _) | (apply below_drewN) | (apply below_drew) | (refine Below.setCell ?_ (by first | omega | (simp <;> omega) | simp) _)))⟩
theorem l3b_any (x y : Int) (w : World) :
    Calls Try.prog 72 #[.agg #[.int .i64 x, .int .i64 y]] w fun e w' => e = .returned (.bool (Pt.br x y)) ∧ Below w.heap.size w w' := by
  by_cases h : Pt.sv x y = true
  · refine l3b_on x y _ _ w h rfl ?_
    unfold Pt.br; rw [h, Bool.true_and, Bool.eq_iff_iff]; simp; omega
  · have e : Pt.br x y = false := by unfold Pt.br; simp [h]
    rw [e]; exact l3b_off x y w (by simpa using h)
theorem l3b_is (x y : Int) (b : Bool) (w : World) (hb : Pt.br x y = b) :
    Calls Try.prog 72 #[.agg #[.int .i64 x, .int .i64 y]] w fun e w' => e = .returned (.bool b) ∧ Below w.heap.size w w' := by
  rw [← hb]; exact l3b_any x y w
theorem sBack_no (x y : Int) (w : World) (h : Pt.br x y = false) :
    Calls Try.prog 45 #[.agg #[.int .i64 x, .int .i64 y]] w fun e w' => e = .returned (.tuple #[.agg #[.int .i64 0, .int .i64 0], .bool false]) ∧ Below w.heap.size w w' := by
  have c1 := fun w => Lib.hid (l3b_is x y _ w h)
  clear h
  go_enter Try.func45, Try.ntmps45
  go_wp2_with ((go_at_call 72; (with_reducible refine ((c1 _).out).mono ?_); rintro e wn ⟨rfl, hbn⟩; obtain ⟨hcn, hfn⟩ := bcell hbn; (try simp only [World.size_drew, World.cell?_drew, World.frozen?_drew, World.heap_drewN, World.cell?_drewN, World.frozen?_drewN] at hcn hfn); have hsz := hbn.size; (try simp at hsz); (try have hsl := Nat.lt_of_succ_le hsz); (try have hz0 : w.heap.size < wn.heap.size := (by have := hbn.size; (try simp at this); omega)); (try have hz1 : w.heap.size + 1 < wn.heap.size := (by have := hbn.size; (try simp at this); omega))))
  exact bodyPost_ret (v := .tuple #[.agg #[.int .i64 0, .int .i64 0], .bool false]) (by simp [results, Try.results45, go_sem, *]) rfl ⟨rfl, (by repeat (first | assumption | exact Below.refl _ _ | (refine below_chain ?_ (by assumption) (by first | omega | (simp <;> omega) | simp)) | (refine Below.alloc ?_ (by first | omega | (simp <;> omega) | simp) _) | (apply below_drewN) | (apply below_drew) | (refine Below.setCell ?_ (by first | omega | (simp <;> omega) | simp) _)))⟩
theorem sBack_yes (x y : Int) (w : World) (h : Pt.br x y = true) :
    Calls Try.prog 45 #[.agg #[.int .i64 x, .int .i64 y]] w fun e w' => e = .returned (.tuple #[.agg #[.int .i64 (-x), .int .i64 (-y)], .bool true]) ∧ Below w.heap.size w w' := by
  have c1 := fun w => Lib.hid (l3b_is x y _ w h)
  obtain ⟨p1, p2, p3, p4⟩ := Pt.sv_true (Pt.br_true h).1
  have e1 : 0 - x = -x := by omega
  have e2 : 0 - y = -y := by omega
  rw [← e1, ← e2]
  clear h e1 e2
  go_enter Try.func45, Try.ntmps45
  go_wp2_with ((go_at_call 72; (with_reducible refine ((c1 _).out).mono ?_); rintro e wn ⟨rfl, hbn⟩; obtain ⟨hcn, hfn⟩ := bcell hbn; (try simp only [World.size_drew, World.cell?_drew, World.frozen?_drew, World.heap_drewN, World.cell?_drewN, World.frozen?_drewN] at hcn hfn); have hsz := hbn.size; (try simp at hsz); (try have hsl := Nat.lt_of_succ_le hsz); (try have hz0 : w.heap.size < wn.heap.size := (by have := hbn.size; (try simp at this); omega)); (try have hz1 : w.heap.size + 1 < wn.heap.size := (by have := hbn.size; (try simp at this); omega))))
  exact bodyPost_ret (v := .tuple #[.agg #[.int .i64 (0 - x), .int .i64 (0 - y)], .bool true]) (by simp [results, Try.results45, go_sem, *]) rfl ⟨rfl, (by repeat (first | assumption | exact Below.refl _ _ | (refine below_chain ?_ (by assumption) (by first | omega | (simp <;> omega) | simp)) | (refine Below.alloc ?_ (by first | omega | (simp <;> omega) | simp) _) | (apply below_drewN) | (apply below_drew) | (refine Below.setCell ?_ (by first | omega | (simp <;> omega) | simp) _)))⟩
theorem sQuarter_no (x y : Int) (w : World) (h : Pt.br x y = false) :
    Calls Try.prog 46 #[.agg #[.int .i64 x, .int .i64 y]] w fun e w' => e = .returned (.tuple #[.int .i64 0, .bool false]) ∧ Below w.heap.size w w' := by
  have c1 := fun w => Lib.hid (l3b_is x y _ w h)
  clear h
  go_enter Try.func46, Try.ntmps46
  go_wp2_with ((go_at_call 72; (with_reducible refine ((c1 _).out).mono ?_); rintro e wn ⟨rfl, hbn⟩; obtain ⟨hcn, hfn⟩ := bcell hbn; (try simp only [World.size_drew, World.cell?_drew, World.frozen?_drew, World.heap_drewN, World.cell?_drewN, World.frozen?_drewN] at hcn hfn); have hsz := hbn.size; (try simp at hsz); (try have hsl := Nat.lt_of_succ_le hsz); (try have hz0 : w.heap.size < wn.heap.size := (by have := hbn.size; (try simp at this); omega))))
  go_ret2
  exact ⟨rfl, (by repeat (first | assumption | exact Below.refl _ _ | (refine below_chain ?_ (by assumption) (by first | omega | (simp <;> omega) | simp)) | (refine Below.alloc ?_ (by first | omega | (simp <;> omega) | simp) _) | (apply below_drewN) | (apply below_drew) | (refine Below.setCell ?_ (by first | omega | (simp <;> omega) | simp) _)))⟩
theorem sQuarter_yes (x y : Int) (w : World) (h : Pt.br x y = true) :
    Calls Try.prog 46 #[.agg #[.int .i64 x, .int .i64 y]] w fun e w' => e = .returned (.tuple #[.int .i64 (Pt.qt x y), .bool true]) ∧ Below w.heap.size w w' := by
  have c1 := fun w => Lib.hid (l3b_is x y _ w h)
  have c2 := fun w => Lib.hid (l3Quarter_any x y w (Pt.br_nz h))
  clear h
  go_enter Try.func46, Try.ntmps46
  go_wp2_with (first | (go_at_call 72; (with_reducible refine ((c1 _).out).mono ?_); rintro e wn ⟨rfl, hbn⟩; obtain ⟨hcn, hfn⟩ := bcell hbn; (try simp only [World.size_drew, World.cell?_drew, World.frozen?_drew, World.heap_drewN, World.cell?_drewN, World.frozen?_drewN] at hcn hfn); have hsz := hbn.size; (try simp at hsz); (try have hsl := Nat.lt_of_succ_le hsz); (try have hz0 : w.heap.size < wn.heap.size := (by have := hbn.size; (try simp at this); omega))) | (go_at_call 76; (with_reducible refine ((c2 _).out).mono ?_); rintro e wq ⟨rfl, hbn⟩; obtain ⟨hcn, hfn⟩ := bcell hbn; (try simp only [World.size_drew, World.cell?_drew, World.frozen?_drew, World.heap_drewN, World.cell?_drewN, World.frozen?_drewN] at hcn hfn); have hsz := hbn.size; (try simp at hsz); (try have hsl := Nat.lt_of_succ_le hsz); (try have hz0 : w.heap.size < wq.heap.size := (by have := hbn.size; (try simp at this); omega)); (try have hz1 : wq.heap.size < wq.heap.size := (by have := hbn.size; (try simp at this); omega))))
  go_ret2
  exact ⟨rfl, (by repeat (first | assumption | exact Below.refl _ _ | (refine below_chain ?_ (by assumption) (by first | omega | (simp <;> omega) | simp)) | (refine Below.alloc ?_ (by first | omega | (simp <;> omega) | simp) _) | (apply below_drewN) | (apply below_drew) | (refine Below.setCell ?_ (by first | omega | (simp <;> omega) | simp) _)))⟩

/-- BearingOf -/
theorem sOf_off (x y : Int) (w : World) (h : Pt.sv x y = false) :
    Calls Try.prog 34 #[.agg #[.int .i64 x, .int .i64 y]] w fun e w' => e = .returned (.tuple #[.agg #[.int .i64 0, .int .i64 0], .bool false]) ∧ Below w.heap.size w w' := by
  have c1 := fun w => Lib.hid (sstep_is x y _ w h)
  clear h
  go_enter Try.func34, Try.ntmps34
  go_wp2_with ((go_at_call 67; (with_reducible refine ((c1 _).out).mono ?_); rintro e wn ⟨rfl, hbn⟩; obtain ⟨hcn, hfn⟩ := bcell hbn; (try simp only [World.size_drew, World.cell?_drew, World.frozen?_drew, World.heap_drewN, World.cell?_drewN, World.frozen?_drewN] at hcn hfn); have hsz := hbn.size; (try simp at hsz); (try have hsl := Nat.lt_of_succ_le hsz); (try have hz0 : w.heap.size < wn.heap.size := (by have := hbn.size; (try simp at this); omega)); (try have hz1 : w.heap.size + 1 < wn.heap.size := (by have := hbn.size; (try simp at this); omega))))
  exact bodyPost_ret (v := .tuple #[.agg #[.int .i64 0, .int .i64 0], .bool false]) (by simp [results, Try.results34, go_sem, *]) rfl ⟨rfl, (by repeat (first | assumption | exact Below.refl _ _ | (refine below_chain ?_ (by assumption) (by first | omega | (simp <;> omega) | simp)) | (refine Below.alloc ?_ (by first | omega | (simp <;> omega) | simp) _) | (apply below_drewN) | (apply below_drew) | (refine Below.setCell ?_ (by first | omega | (simp <;> omega) | simp) _)))⟩
theorem sOf_zero (w : World) :
    Calls Try.prog 34 #[.agg #[.int .i64 0, .int .i64 0]] w fun e w' => e = .returned (.tuple #[.agg #[.int .i64 0, .int .i64 0], .bool false]) ∧ Below w.heap.size w w' := by
  have c1 := fun w => Lib.hid (sstep_is 0 0 true w (by decide))
  go_enter Try.func34, Try.ntmps34
  go_wp2_with ((go_at_call 67; (with_reducible refine ((c1 _).out).mono ?_); rintro e wn ⟨rfl, hbn⟩; obtain ⟨hcn, hfn⟩ := bcell hbn; (try simp only [World.size_drew, World.cell?_drew, World.frozen?_drew, World.heap_drewN, World.cell?_drewN, World.frozen?_drewN] at hcn hfn); have hsz := hbn.size; (try simp at hsz); (try have hsl := Nat.lt_of_succ_le hsz); (try have hz0 : w.heap.size < wn.heap.size := (by have := hbn.size; (try simp at this); omega)); (try have hz1 : w.heap.size + 1 < wn.heap.size := (by have := hbn.size; (try simp at this); omega))))
  exact bodyPost_ret (v := .tuple #[.agg #[.int .i64 0, .int .i64 0], .bool false]) (by simp [results, Try.results34, go_sem, *]) rfl ⟨rfl, (by repeat (first | assumption | exact Below.refl _ _ | (refine below_chain ?_ (by assumption) (by first | omega | (simp <;> omega) | simp)) | (refine Below.alloc ?_ (by first | omega | (simp <;> omega) | simp) _) | (apply below_drewN) | (apply below_drew) | (refine Below.setCell ?_ (by first | omega | (simp <;> omega) | simp) _)))⟩
theorem sOf_yes (x y g : Int) (w : World) (h : Pt.sv x y = true) (h0 : ¬ (x = 0 ∧ y = 0)) (hg : (Int.gcd x y : Int) = g) :
    Calls Try.prog 34 #[.agg #[.int .i64 x, .int .i64 y]] w fun e w' => e = .returned (.tuple #[.agg #[.int .i64 (x.tdiv g), .int .i64 (y.tdiv g)], .bool true]) ∧ Below w.heap.size w w' := by
  obtain ⟨p1, p2, p3, p4⟩ := Pt.sv_true h
  have c1 := fun w => Lib.hid (sstep_is x y true w h)
  have c2 := fun w => Lib.hid (ssize_is x w p1 p2)
  have c3 := fun w => Lib.hid (ssize_is y w p3 p4)
  have c4 := fun w => Lib.hid (scommon_is x y g w h hg)
  have hp : 0 < g := by rw [← hg]; exact Pt.gcd_pos h0
  clear h hg
  by_cases hx : x = 0
  · subst hx
    have hy : ¬ y = 0 := by omega
    clear h0
    go_enter Try.func34, Try.ntmps34
    go_wp2_with ((go_at_call 67; (with_reducible refine ((c1 _).out).mono ?_); rintro e wn ⟨rfl, hbn⟩; obtain ⟨hcn, hfn⟩ := bcell hbn; (try simp only [World.size_drew, World.cell?_drew, World.frozen?_drew, World.heap_drewN, World.cell?_drewN, World.frozen?_drewN] at hcn hfn); have hsz := hbn.size; (try simp at hsz); (try have hsl := Nat.lt_of_succ_le hsz); (try have hz0 : w.heap.size < wn.heap.size := (by have := hbn.size; (try simp at this); omega)); (try have hz1 : w.heap.size + 1 < wn.heap.size := (by have := hbn.size; (try simp at this); omega))))
    (refine wp_region_grows (by kernel_rfl) (by kernel_rfl) ?_; intro W_wg hWc_wg hWs_wg hWe_wg; (repeat (go_big_quiet_step (first | (go_at_call 64; with_reducible exact Ext.call0 ((c2 _).out)) | (go_at_call 64; with_reducible exact Ext.call0 ((c3 _).out)) | (go_at_call 63; exact Ext.call0 ((c4 _).out))))); with_reducible refine wpQuiet_nil ?_; clear hWe_wg hWs_wg hWc_wg W_wg; intro wg hb_wg; obtain ⟨hc_wg, hf_wg⟩ := bcell hb_wg; (try simp only [World.size_drew, World.cell?_drew, World.frozen?_drew, World.heap_drewN, World.cell?_drewN, World.frozen?_drewN] at hc_wg hf_wg); have hs_wg := hb_wg.size; (try simp at hs_wg); (try have hz_wg0 : w.heap.size < wg.heap.size := (by have := hb_wg.size; (try simp at this); omega)); (try have hz_wg1 : w.heap.size + 1 < wg.heap.size := (by have := hb_wg.size; (try simp at this); omega)))
    go_wp2_with fail
    (refine wp_region_grows_tail 9 (by kernel_rfl) (by kernel_rfl) ?_; simp only [List.take_succ_cons, List.take_zero, List.drop_succ_cons, List.drop_zero]; intro W_wk hWc_wk hWs_wk hWe_wk; (repeat (go_big_quiet_step (fail))); with_reducible refine wpQuiet_nil ?_; clear hWe_wk hWs_wk hWc_wk W_wk; intro wk hb_wk; obtain ⟨hc_wk, hf_wk⟩ := bcell hb_wk; (try simp only [World.size_drew, World.cell?_drew, World.frozen?_drew, World.heap_drewN, World.cell?_drewN, World.frozen?_drewN] at hc_wk hf_wk); have hs_wk := hb_wk.size; (try simp at hs_wk); (try have hz_wk0 : w.heap.size < wk.heap.size := (by have := hb_wk.size; (try simp at this); omega)); (try have hz_wk1 : w.heap.size + 1 < wk.heap.size := (by have := hb_wk.size; (try simp at this); omega)))
    go_wp2
    exact bodyPost_ret (v := .tuple #[.agg #[.int .i64 (Int.tdiv 0 g), .int .i64 (y.tdiv g)], .bool true]) (by simp [results, Try.results34, go_sem, *]) rfl ⟨rfl, (by repeat (first | assumption | exact Below.refl _ _ | (refine below_chain ?_ (by assumption) (by first | omega | (simp <;> omega) | simp)) | (refine Below.alloc ?_ (by first | omega | (simp <;> omega) | simp) _) | (apply below_drewN) | (apply below_drew) | (refine Below.setCell ?_ (by first | omega | (simp <;> omega) | simp) _)))⟩
  · clear h0
    go_enter Try.func34, Try.ntmps34
    go_wp2_with ((go_at_call 67; (with_reducible refine ((c1 _).out).mono ?_); rintro e wn ⟨rfl, hbn⟩; obtain ⟨hcn, hfn⟩ := bcell hbn; (try simp only [World.size_drew, World.cell?_drew, World.frozen?_drew, World.heap_drewN, World.cell?_drewN, World.frozen?_drewN] at hcn hfn); have hsz := hbn.size; (try simp at hsz); (try have hsl := Nat.lt_of_succ_le hsz); (try have hz0 : w.heap.size < wn.heap.size := (by have := hbn.size; (try simp at this); omega)); (try have hz1 : w.heap.size + 1 < wn.heap.size := (by have := hbn.size; (try simp at this); omega))))
    (refine wp_region_grows (by kernel_rfl) (by kernel_rfl) ?_; intro W_wg hWc_wg hWs_wg hWe_wg; (repeat (go_big_quiet_step (first | (go_at_call 64; with_reducible exact Ext.call0 ((c2 _).out)) | (go_at_call 64; with_reducible exact Ext.call0 ((c3 _).out)) | (go_at_call 63; with_reducible exact Ext.call0 ((c4 _).out))))); with_reducible refine wpQuiet_nil ?_; clear hWe_wg hWs_wg hWc_wg W_wg; intro wg hb_wg; obtain ⟨hc_wg, hf_wg⟩ := bcell hb_wg; (try simp only [World.size_drew, World.cell?_drew, World.frozen?_drew, World.heap_drewN, World.cell?_drewN, World.frozen?_drewN] at hc_wg hf_wg); have hs_wg := hb_wg.size; (try simp at hs_wg); (try have hz_wg0 : w.heap.size < wg.heap.size := (by have := hb_wg.size; (try simp at this); omega)); (try have hz_wg1 : w.heap.size + 1 < wg.heap.size := (by have := hb_wg.size; (try simp at this); omega)))
    go_wp2_with fail
    (refine wp_region_grows_tail 9 (by kernel_rfl) (by kernel_rfl) ?_; simp only [List.take_succ_cons, List.take_zero, List.drop_succ_cons, List.drop_zero]; intro W_wk hWc_wk hWs_wk hWe_wk; (repeat (go_big_quiet_step (fail))); with_reducible refine wpQuiet_nil ?_; clear hWe_wk hWs_wk hWc_wk W_wk; intro wk hb_wk; obtain ⟨hc_wk, hf_wk⟩ := bcell hb_wk; (try simp only [World.size_drew, World.cell?_drew, World.frozen?_drew, World.heap_drewN, World.cell?_drewN, World.frozen?_drewN] at hc_wk hf_wk); have hs_wk := hb_wk.size; (try simp at hs_wk); (try have hz_wk0 : w.heap.size < wk.heap.size := (by have := hb_wk.size; (try simp at this); omega)); (try have hz_wk1 : w.heap.size + 1 < wk.heap.size := (by have := hb_wk.size; (try simp at this); omega)))
    go_wp2
    exact bodyPost_ret (v := .tuple #[.agg #[.int .i64 (x.tdiv g), .int .i64 (y.tdiv g)], .bool true]) (by simp [results, Try.results34, go_sem, *]) rfl ⟨rfl, (by repeat (first | assumption | exact Below.refl _ _ | (refine below_chain ?_ (by assumption) (by first | omega | (simp <;> omega) | simp)) | (refine Below.alloc ?_ (by first | omega | (simp <;> omega) | simp) _) | (apply below_drewN) | (apply below_drew) | (refine Below.setCell ?_ (by first | omega | (simp <;> omega) | simp) _)))⟩

theorem sOf_nob (x y : Int) (w : World) (h : (Pt.sv x y && !(x == 0 && y == 0)) = false) :
    Calls Try.prog 34 #[.agg #[.int .i64 x, .int .i64 y]] w fun e w' => e = .returned (.tuple #[.agg #[.int .i64 0, .int .i64 0], .bool false]) ∧ Below w.heap.size w w' := by
  by_cases hs : Pt.sv x y = true
  · rw [hs] at h
    have : x = 0 ∧ y = 0 := by simpa using h
    obtain ⟨rfl, rfl⟩ := this
    exact sOf_zero w
  · exact sOf_off x y w (by simpa using hs)

theorem sLess_no (a b c d : Int) (p q : Bool) (w : World) (hp : Pt.br a b = p) (hq : Pt.br c d = q) (h : (p && q) = false) :
    Calls Try.prog 42 #[.agg #[.int .i64 a, .int .i64 b], .agg #[.int .i64 c, .int .i64 d]] w fun e w' => e = .returned (.bool false) ∧ Below w.heap.size w w' := by
  have c1 := fun w => Lib.hid (l3b_is a b p w hp)
  have c2 := fun w => Lib.hid (l3b_is c d q w hq)
  clear hp hq
  cases p <;> cases q
  case true.true => cases h
  all_goals
    go_enter Try.func42, Try.ntmps42
    go_wp2_with (first | (go_at_call 72; (with_reducible refine ((c1 _).out).mono ?_); rintro e wn ⟨rfl, hbn⟩; obtain ⟨hcn, hfn⟩ := bcell hbn; (try simp only [World.size_drew, World.cell?_drew, World.frozen?_drew, World.heap_drewN, World.cell?_drewN, World.frozen?_drewN] at hcn hfn); have hsz := hbn.size; (try simp at hsz); (try have hsl := Nat.lt_of_succ_le hsz); (try have hz0 : w.heap.size < wn.heap.size := (by have := hbn.size; (try simp at this); omega)); (try have hz1 : w.heap.size + 1 < wn.heap.size := (by have := hbn.size; (try simp at this); omega))) | (go_at_call 72; (with_reducible refine ((c2 _).out).mono ?_); rintro e wm ⟨rfl, hbn⟩; obtain ⟨hcn, hfn⟩ := bcell hbn; (try simp only [World.size_drew, World.cell?_drew, World.frozen?_drew, World.heap_drewN, World.cell?_drewN, World.frozen?_drewN] at hcn hfn); have hsz := hbn.size; (try simp at hsz); (try have hsl := Nat.lt_of_succ_le hsz); (try have hz0 : w.heap.size < wm.heap.size := (by have := hbn.size; (try simp at this); omega)); (try have hz1 : w.heap.size + 1 < wm.heap.size := (by have := hbn.size; (try simp at this); omega))))
    go_ret
    exact ⟨rfl, (by repeat (first | assumption | exact Below.refl _ _ | (refine below_chain ?_ (by assumption) (by first | omega | (simp <;> omega) | simp)) | (refine Below.alloc ?_ (by first | omega | (simp <;> omega) | simp) _) | (apply below_drewN) | (apply below_drew) | (refine Below.setCell ?_ (by first | omega | (simp <;> omega) | simp) _)))⟩
theorem l3q_is (x y n : Int) (w : World) (h : Pt.br x y = true) (hn : Pt.qt x y = n) :
    Calls Try.prog 76 #[.agg #[.int .i64 x, .int .i64 y]] w fun e w' => e = .returned (.int .i64 n) ∧ Below w.heap.size w w' := by
  rw [← hn]; exact l3Quarter_any x y w (Pt.br_nz h)
set_option maxHeartbeats 800000 in
theorem sLess_far (a b c d m n : Int) (w : World) (h1 : Pt.br a b = true) (h2 : Pt.br c d = true) (hm : Pt.qt a b = m) (hn : Pt.qt c d = n) (hmn : ¬ m = n) :
    Calls Try.prog 42 #[.agg #[.int .i64 a, .int .i64 b], .agg #[.int .i64 c, .int .i64 d]] w fun e w' => e = .returned (.bool (decide (m < n))) ∧ Below w.heap.size w w' := by
  have c1 := fun w => Lib.hid (l3b_is a b true w h1)
  have c2 := fun w => Lib.hid (l3b_is c d true w h2)
  have c3 := fun w => Lib.hid (l3q_is a b m w h1 hm)
  have c4 := fun w => Lib.hid (l3q_is c d n w h2 hn)
  have b1 : (m != n) = true := by simpa using hmn
  clear h1 h2 hm hn hmn
  go_enter Try.func42, Try.ntmps42
  go_wp2_with (first | (go_at_call 72; (with_reducible refine ((c1 _).out).mono ?_); rintro e wn ⟨rfl, hbn⟩; obtain ⟨hcn, hfn⟩ := bcell hbn; (try simp only [World.size_drew, World.cell?_drew, World.frozen?_drew, World.heap_drewN, World.cell?_drewN, World.frozen?_drewN] at hcn hfn); have hsz := hbn.size; (try simp at hsz); (try have hsl := Nat.lt_of_succ_le hsz); (try have hz0 : w.heap.size < wn.heap.size := (by have := hbn.size; (try simp at this); omega)); (try have hz1 : w.heap.size + 1 < wn.heap.size := (by have := hbn.size; (try simp at this); omega))) | (go_at_call 72; (with_reducible refine ((c2 _).out).mono ?_); rintro e wm ⟨rfl, hbn⟩; obtain ⟨hcn, hfn⟩ := bcell hbn; (try simp only [World.size_drew, World.cell?_drew, World.frozen?_drew, World.heap_drewN, World.cell?_drewN, World.frozen?_drewN] at hcn hfn); have hsz := hbn.size; (try simp at hsz); (try have hsl := Nat.lt_of_succ_le hsz); (try have hz0 : w.heap.size < wm.heap.size := (by have := hbn.size; (try simp at this); omega)); (try have hz1 : w.heap.size + 1 < wm.heap.size := (by have := hbn.size; (try simp at this); omega)); (try have hz2 : wm.heap.size < wm.heap.size := (by have := hbn.size; (try simp at this); omega))))
  (refine wp_region_grows (by kernel_rfl) (by kernel_rfl) ?_; intro W_wg hWc_wg hWs_wg hWe_wg; (repeat (go_big_quiet_step (first | (go_at_call 76; with_reducible exact Ext.call ((c3 _).out)) | (go_at_call 76; with_reducible exact Ext.call ((c4 _).out))))); with_reducible refine wpQuiet_nil ?_; clear hWe_wg hWs_wg hWc_wg W_wg; intro wg hb_wg; obtain ⟨hc_wg, hf_wg⟩ := bcell hb_wg; (try simp only [World.size_drew, World.cell?_drew, World.frozen?_drew, World.heap_drewN, World.cell?_drewN, World.frozen?_drewN] at hc_wg hf_wg); have hs_wg := hb_wg.size; (try simp at hs_wg); (try have hz_wg0 : w.heap.size < wg.heap.size := (by have := hb_wg.size; (try simp at this); omega)); (try have hz_wg1 : w.heap.size + 1 < wg.heap.size := (by have := hb_wg.size; (try simp at this); omega)))
  go_wp2_with fail
  (refine wp_region_grows (by kernel_rfl) (by kernel_rfl) ?_; intro W_wk hWc_wk hWs_wk hWe_wk; (repeat (go_big_quiet_step (first | (go_at_call 76; with_reducible exact Ext.call ((c3 _).out)) | (go_at_call 76; with_reducible exact Ext.call ((c4 _).out))))); with_reducible refine wpQuiet_nil ?_; clear hWe_wk hWs_wk hWc_wk W_wk; intro wk hb_wk; obtain ⟨hc_wk, hf_wk⟩ := bcell hb_wk; (try simp only [World.size_drew, World.cell?_drew, World.frozen?_drew, World.heap_drewN, World.cell?_drewN, World.frozen?_drewN] at hc_wk hf_wk); have hs_wk := hb_wk.size; (try simp at hs_wk); (try have hz_wk0 : w.heap.size < wk.heap.size := (by have := hb_wk.size; (try simp at this); omega)); (try have hz_wk1 : w.heap.size + 1 < wk.heap.size := (by have := hb_wk.size; (try simp at this); omega)))
  go_wp2_with fail
  go_ret
  exact ⟨rfl, (by repeat (first | assumption | exact Below.refl _ _ | (refine below_chain ?_ (by assumption) (by first | omega | (simp <;> omega) | simp)) | (refine Below.alloc ?_ (by first | omega | (simp <;> omega) | simp) _) | (apply below_drewN) | (apply below_drew) | (refine Below.setCell ?_ (by first | omega | (simp <;> omega) | simp) _)))⟩
set_option maxHeartbeats 800000 in
theorem sLess_near (a b c d m x : Int) (w : World) (h1 : Pt.br a b = true) (h2 : Pt.br c d = true) (hm : Pt.qt a b = m) (hn : Pt.qt c d = m) (hx : Pt.cr a b c d = x) :
    Calls Try.prog 42 #[.agg #[.int .i64 a, .int .i64 b], .agg #[.int .i64 c, .int .i64 d]] w fun e w' => e = .returned (.bool (decide (x < 0))) ∧ Below w.heap.size w w' := by
  have c1 := fun w => Lib.hid (l3b_is a b true w h1)
  have c2 := fun w => Lib.hid (l3b_is c d true w h2)
  have c3 := fun w => Lib.hid (l3q_is a b m w h1 hm)
  have c4 := fun w => Lib.hid (l3q_is c d m w h2 hn)
  have c5 := fun w => Lib.hid (l2Cross_any a b c d w (Pt.br_true h1).1 (Pt.br_true h2).1)
  rw [hx] at c5
  clear h1 h2 hm hn hx
  go_enter Try.func42, Try.ntmps42
  go_wp2_with (first | (go_at_call 72; (with_reducible refine ((c1 _).out).mono ?_); rintro e wn ⟨rfl, hbn⟩; obtain ⟨hcn, hfn⟩ := bcell hbn; (try simp only [World.size_drew, World.cell?_drew, World.frozen?_drew, World.heap_drewN, World.cell?_drewN, World.frozen?_drewN] at hcn hfn); have hsz := hbn.size; (try simp at hsz); (try have hsl := Nat.lt_of_succ_le hsz); (try have hz0 : w.heap.size < wn.heap.size := (by have := hbn.size; (try simp at this); omega)); (try have hz1 : w.heap.size + 1 < wn.heap.size := (by have := hbn.size; (try simp at this); omega))) | (go_at_call 72; (with_reducible refine ((c2 _).out).mono ?_); rintro e wm ⟨rfl, hbn⟩; obtain ⟨hcn, hfn⟩ := bcell hbn; (try simp only [World.size_drew, World.cell?_drew, World.frozen?_drew, World.heap_drewN, World.cell?_drewN, World.frozen?_drewN] at hcn hfn); have hsz := hbn.size; (try simp at hsz); (try have hsl := Nat.lt_of_succ_le hsz); (try have hz0 : w.heap.size < wm.heap.size := (by have := hbn.size; (try simp at this); omega)); (try have hz1 : w.heap.size + 1 < wm.heap.size := (by have := hbn.size; (try simp at this); omega)); (try have hz2 : wm.heap.size < wm.heap.size := (by have := hbn.size; (try simp at this); omega))))
  (refine wp_region_grows (by kernel_rfl) (by kernel_rfl) ?_; intro W_wg hWc_wg hWs_wg hWe_wg; (repeat (go_big_quiet_step (first | (go_at_call 76; with_reducible exact Ext.call ((c3 _).out)) | (go_at_call 76; with_reducible exact Ext.call ((c4 _).out))))); with_reducible refine wpQuiet_nil ?_; clear hWe_wg hWs_wg hWc_wg W_wg; intro wg hb_wg; obtain ⟨hc_wg, hf_wg⟩ := bcell hb_wg; (try simp only [World.size_drew, World.cell?_drew, World.frozen?_drew, World.heap_drewN, World.cell?_drewN, World.frozen?_drewN] at hc_wg hf_wg); have hs_wg := hb_wg.size; (try simp at hs_wg); (try have hz_wg0 : w.heap.size < wg.heap.size := (by have := hb_wg.size; (try simp at this); omega)); (try have hz_wg1 : w.heap.size + 1 < wg.heap.size := (by have := hb_wg.size; (try simp at this); omega)))
  go_wp2_with ((go_at_call 77; (with_reducible refine ((c5 _).out).mono ?_); rintro e wz ⟨rfl, hbn⟩; obtain ⟨hcn, hfn⟩ := bcell hbn; (try simp only [World.size_drew, World.cell?_drew, World.frozen?_drew, World.heap_drewN, World.cell?_drewN, World.frozen?_drewN] at hcn hfn); have hsz := hbn.size; (try simp at hsz); (try have hsl := Nat.lt_of_succ_le hsz); (try have hz0 : w.heap.size < wz.heap.size := (by have := hbn.size; (try simp at this); omega)); (try have hz1 : w.heap.size + 1 < wz.heap.size := (by have := hbn.size; (try simp at this); omega))))
  go_ret
  exact ⟨rfl, (by repeat (first | assumption | exact Below.refl _ _ | (refine below_chain ?_ (by assumption) (by first | omega | (simp <;> omega) | simp)) | (refine Below.alloc ?_ (by first | omega | (simp <;> omega) | simp) _) | (apply below_drewN) | (apply below_drew) | (refine Below.setCell ?_ (by first | omega | (simp <;> omega) | simp) _)))⟩
end Go.Proofs.Ytigmhhdbldlgaaa
