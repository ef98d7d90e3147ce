/-
  What the reference model's PointSide and PointOn answer, as functions on coordinates.
-/
import Derived.Test.YtegcjdcinebleaaPs
namespace Go.Proofs.Ytegcjdcinebleaa
open Go.RowKit
set_option linter.unusedVariables false

set_option maxHeartbeats 4000000 in
theorem sOn_off (a b c d u v : Int) (w : World) (h1 : Pt.pv a b = true) (h2 : Pt.pv c d = true) (h3 : Pt.pv u v = true) (hc : ¬ Pt.cr (c - a) (d - b) (u - a) (v - b) = 0) :
    Calls Try.prog 65 #[.agg #[.int .i64 a, .int .i64 b], .agg #[.int .i64 c, .int .i64 d], .agg #[.int .i64 u, .int .i64 v]] w fun e w' => e = .returned (.bool false) ∧ Below w.heap.size w w' := by
  have ct := fun w => Lib.hid (l2Step_any a b c d w h1 h2)
  have cu := fun w => Lib.hid (l2Step_any a b u v w h1 h3)
  have cc := fun w => Lib.hid (l2Cross_any (c - a) (d - b) (u - a) (v - b) w (Pt.sv_of h1 h2) (Pt.sv_of h1 h3))
  have hc' : (Pt.cr (c - a) (d - b) (u - a) (v - b) == 0) = false := by simpa using hc
  have hc2 : (Pt.cr (c - a) (d - b) (u - a) (v - b) != 0) = true := by simpa using hc
  clear h1 h2 h3 hc
  go_enter Try.func65, Try.ntmps65
  go_wp2_with fail
  go_region_held3 (fun W => W.cell? ⟨w.heap.size, 0, none⟩ = some (.int .i64 a) ∧ W.cell? ⟨w.heap.size, 1, none⟩ = some (.int .i64 b) ∧ W.cell? ⟨w.heap.size + 1, 0, none⟩ = some (.int .i64 c) ∧ W.cell? ⟨w.heap.size + 1, 1, none⟩ = some (.int .i64 d) ∧ W.cell? ⟨w.heap.size + 1 + 1, 0, none⟩ = some (.int .i64 u) ∧ W.cell? ⟨w.heap.size + 1 + 1, 1, none⟩ = some (.int .i64 v)) (((try dsimp only); (try go_split_ands); refine ⟨?_, ?_, ?_, ?_, ?_, ?_⟩ <;> (first | ((repeat (first | with_reducible assumption | (with_reducible refine cell_below_keep (by with_reducible assumption) ?_) | (simp [go_sem]; done) | (with_reducible refine cell_alloc_keep _ ?_) | (with_reducible refine cell_drew_keep ?_) | (with_reducible refine cell_drewN_keep _ ?_) | (with_reducible refine cell_set_keep _ (by first | (simp; omega) | omega) ?_))); done) | (simp [*, go_sem]; done))))
    (first | (go_at_call 105; (with_reducible refine ((ct _).out).mono ?_); rintro e w1 ⟨rfl, hbn⟩; obtain ⟨hcn, hfn⟩ := bcell hbn; (try simp only [World.size_drew, World.cell?_drew, World.frozen?_drew, World.heap_drewN, World.cell?_drewN, World.frozen?_drewN] at hcn hfn); have hsz := hbn.size; (try simp at hsz); (try have hsl := Nat.lt_of_succ_le hsz); (try have hz0 : w.heap.size < w1.heap.size := (by have := hbn.size; (try simp at this); omega)); (try have hz1 : w.heap.size + 1 < w1.heap.size := (by have := hbn.size; (try simp at this); omega)); (try have hz2 : w.heap.size + 1 + 1 < w1.heap.size := (by have := hbn.size; (try simp at this); omega)); (try have hz3 : w.heap.size + 1 + 1 + 1 < w1.heap.size := (by have := hbn.size; (try simp at this); omega))) | (go_at_call 105; (with_reducible refine ((cu _).out).mono ?_); rintro e w2 ⟨rfl, hbn⟩; obtain ⟨hcn, hfn⟩ := bcell hbn; (try simp only [World.size_drew, World.cell?_drew, World.frozen?_drew, World.heap_drewN, World.cell?_drewN, World.frozen?_drewN] at hcn hfn); have hsz := hbn.size; (try simp at hsz); (try have hsl := Nat.lt_of_succ_le hsz); (try have hz0 : w.heap.size < w2.heap.size := (by have := hbn.size; (try simp at this); omega)); (try have hz1 : w.heap.size + 1 < w2.heap.size := (by have := hbn.size; (try simp at this); omega)); (try have hz2 : w.heap.size + 1 + 1 < w2.heap.size := (by have := hbn.size; (try simp at this); omega)); (try have hz3 : w.heap.size + 1 + 1 + 1 < w2.heap.size := (by have := hbn.size; (try simp at this); omega))) | (go_at_call 104; (with_reducible refine ((cc _).out).mono ?_); rintro e w3 ⟨rfl, hbn⟩; obtain ⟨hcn, hfn⟩ := bcell hbn; (try simp only [World.size_drew, World.cell?_drew, World.frozen?_drew, World.heap_drewN, World.cell?_drewN, World.frozen?_drewN] at hcn hfn); have hsz := hbn.size; (try simp at hsz); (try have hsl := Nat.lt_of_succ_le hsz); (try have hz0 : w.heap.size < w3.heap.size := (by have := hbn.size; (try simp at this); omega)); (try have hz1 : w.heap.size + 1 < w3.heap.size := (by have := hbn.size; (try simp at this); omega)); (try have hz2 : w.heap.size + 1 + 1 < w3.heap.size := (by have := hbn.size; (try simp at this); omega)); (try have hz3 : w.heap.size + 1 + 1 + 1 < w3.heap.size := (by have := hbn.size; (try simp at this); omega))))
  all_goals go_wp2_with fail
  all_goals go_ret
  all_goals exact ⟨rfl, (by repeat (first | assumption | exact Below.refl _ _ | (refine below_chain ?_ (by assumption) (by first | omega | (simp <;> omega) | simp)) | (refine Below.alloc ?_ (by first | omega | (simp <;> omega) | simp) _) | (apply below_drewN) | (apply below_drew) | (refine Below.setCell ?_ (by first | omega | (simp <;> omega) | simp) _)))⟩
set_option maxHeartbeats 8000000 in
theorem sOn_on (a b c d u v : Int) (q : Bool) (w : World) (h1 : Pt.pv a b = true) (h2 : Pt.pv c d = true) (h3 : Pt.pv u v = true) (hc : Pt.cr (c - a) (d - b) (u - a) (v - b) = 0) (hq : Pt.onB a b c d u v = q) :
    Calls Try.prog 65 #[.agg #[.int .i64 a, .int .i64 b], .agg #[.int .i64 c, .int .i64 d], .agg #[.int .i64 u, .int .i64 v]] w fun e w' => e = .returned (.bool q) ∧ Below w.heap.size w w' := by
  have ct := fun w => Lib.hid (l2Step_any a b c d w h1 h2)
  have cu := fun w => Lib.hid (l2Step_any a b u v w h1 h3)
  have cc := fun w => Lib.hid (l2Cross_any (c - a) (d - b) (u - a) (v - b) w (Pt.sv_of h1 h2) (Pt.sv_of h1 h3))
  rw [hc] at cc
  have e : Pt.onB a b c d u v = (decide (min a c ≤ u ∧ u ≤ max a c) && decide (min b d ≤ v ∧ v ≤ max b d)) := by unfold Pt.onB; rw [← Bool.decide_and]; apply decide_eq_decide.2; constructor <;> (intro h; omega)
  rw [e] at hq
  obtain ⟨x, hx⟩ : ∃ x, decide (min a c ≤ u ∧ u ≤ max a c) = x := ⟨_, rfl⟩
  obtain ⟨y, hy⟩ : ∃ y, decide (min b d ≤ v ∧ v ≤ max b d) = y := ⟨_, rfl⟩
  rw [hx, hy] at hq
  subst hq
  have hx' := Lib.hid hx
  have hy' := Lib.hid hy
  obtain ⟨q1, q2, q3, q4⟩ := Pt.pv_true h1
  obtain ⟨q5, q6, q7, q8⟩ := Pt.pv_true h2
  clear h1 h2 h3 hc e hx hy
  cases x <;> cases y
  all_goals
    go_enter Try.func65, Try.ntmps65
    go_wp2_with fail
    go_region_held3 (fun W => W.cell? ⟨w.heap.size, 0, none⟩ = some (.int .i64 a) ∧ W.cell? ⟨w.heap.size, 1, none⟩ = some (.int .i64 b) ∧ W.cell? ⟨w.heap.size + 1, 0, none⟩ = some (.int .i64 c) ∧ W.cell? ⟨w.heap.size + 1, 1, none⟩ = some (.int .i64 d) ∧ W.cell? ⟨w.heap.size + 1 + 1, 0, none⟩ = some (.int .i64 u) ∧ W.cell? ⟨w.heap.size + 1 + 1, 1, none⟩ = some (.int .i64 v)) (((try dsimp only); (try go_split_ands); refine ⟨?_, ?_, ?_, ?_, ?_, ?_⟩ <;> (first | ((repeat (first | with_reducible assumption | (with_reducible refine cell_below_keep (by with_reducible assumption) ?_) | (simp [go_sem]; done) | (with_reducible refine cell_alloc_keep _ ?_) | (with_reducible refine cell_drew_keep ?_) | (with_reducible refine cell_drewN_keep _ ?_) | (with_reducible refine cell_set_keep _ (by first | (simp; omega) | omega) ?_))); done) | (simp [*, go_sem]; done))))
      (first | (go_at_call 105; (with_reducible refine ((ct _).out).mono ?_); rintro e w1 ⟨rfl, hbn⟩; obtain ⟨hcn, hfn⟩ := bcell hbn; (try simp only [World.size_drew, World.cell?_drew, World.frozen?_drew, World.heap_drewN, World.cell?_drewN, World.frozen?_drewN] at hcn hfn); have hsz := hbn.size; (try simp at hsz); (try have hsl := Nat.lt_of_succ_le hsz); (try have hz0 : w.heap.size < w1.heap.size := (by have := hbn.size; (try simp at this); omega)); (try have hz1 : w.heap.size + 1 < w1.heap.size := (by have := hbn.size; (try simp at this); omega)); (try have hz2 : w.heap.size + 1 + 1 < w1.heap.size := (by have := hbn.size; (try simp at this); omega)); (try have hz3 : w.heap.size + 1 + 1 + 1 < w1.heap.size := (by have := hbn.size; (try simp at this); omega))) | (go_at_call 105; (with_reducible refine ((cu _).out).mono ?_); rintro e w2 ⟨rfl, hbn⟩; obtain ⟨hcn, hfn⟩ := bcell hbn; (try simp only [World.size_drew, World.cell?_drew, World.frozen?_drew, World.heap_drewN, World.cell?_drewN, World.frozen?_drewN] at hcn hfn); have hsz := hbn.size; (try simp at hsz); (try have hsl := Nat.lt_of_succ_le hsz); (try have hz0 : w.heap.size < w2.heap.size := (by have := hbn.size; (try simp at this); omega)); (try have hz1 : w.heap.size + 1 < w2.heap.size := (by have := hbn.size; (try simp at this); omega)); (try have hz2 : w.heap.size + 1 + 1 < w2.heap.size := (by have := hbn.size; (try simp at this); omega)); (try have hz3 : w.heap.size + 1 + 1 + 1 < w2.heap.size := (by have := hbn.size; (try simp at this); omega))) | (go_at_call 104; (with_reducible refine ((cc _).out).mono ?_); rintro e w3 ⟨rfl, hbn⟩; obtain ⟨hcn, hfn⟩ := bcell hbn; (try simp only [World.size_drew, World.cell?_drew, World.frozen?_drew, World.heap_drewN, World.cell?_drewN, World.frozen?_drewN] at hcn hfn); have hsz := hbn.size; (try simp at hsz); (try have hsl := Nat.lt_of_succ_le hsz); (try have hz0 : w.heap.size < w3.heap.size := (by have := hbn.size; (try simp at this); omega)); (try have hz1 : w.heap.size + 1 < w3.heap.size := (by have := hbn.size; (try simp at this); omega)); (try have hz2 : w.heap.size + 1 + 1 < w3.heap.size := (by have := hbn.size; (try simp at this); omega)); (try have hz3 : w.heap.size + 1 + 1 + 1 < w3.heap.size := (by have := hbn.size; (try simp at this); omega))))
    all_goals go_wp2_with (first | (go_at_call 86; (with_reducible refine (in_is u _ _ _ _ (Eq.trans ?_ hx'.out)).mono ?_); (focus ((apply decide_eq_decide.2; omega); done)); rintro e w' ⟨rfl, rfl⟩) | (go_at_call 86; (with_reducible refine (in_is v _ _ _ _ (Eq.trans ?_ hy'.out)).mono ?_); (focus ((apply decide_eq_decide.2; omega); done)); rintro e w' ⟨rfl, rfl⟩))
    all_goals go_ret
    all_goals exact ⟨rfl, (by repeat (first | assumption | exact Below.refl _ _ | (refine below_chain ?_ (by assumption) (by first | omega | (simp <;> omega) | simp)) | (refine Below.alloc ?_ (by first | omega | (simp <;> omega) | simp) _) | (apply below_drewN) | (apply below_drew) | (refine Below.setCell ?_ (by first | omega | (simp <;> omega) | simp) _)))⟩
theorem sOn_any (a b c d u v : Int) (w : World) (h1 : Pt.pv a b = true) (h2 : Pt.pv c d = true) (h3 : Pt.pv u v = true) :
    Calls Try.prog 65 #[.agg #[.int .i64 a, .int .i64 b], .agg #[.int .i64 c, .int .i64 d], .agg #[.int .i64 u, .int .i64 v]] w fun e w' => e = .returned (.bool (Pt.onB a b c d u v)) ∧ Below w.heap.size w w' := by
  by_cases hc : Pt.cr (c - a) (d - b) (u - a) (v - b) = 0
  · exact sOn_on a b c d u v _ w h1 h2 h3 hc rfl
  · have e : Pt.onB a b c d u v = false := by unfold Pt.onB; simp [hc]
    rw [e]; exact sOn_off a b c d u v w h1 h2 h3 hc
theorem sOn_is (a b c d u v : Int) (q : Bool) (w : World) (h1 : Pt.pv a b = true) (h2 : Pt.pv c d = true) (h3 : Pt.pv u v = true) (hq : Pt.onB a b c d u v = q) :
    Calls Try.prog 65 #[.agg #[.int .i64 a, .int .i64 b], .agg #[.int .i64 c, .int .i64 d], .agg #[.int .i64 u, .int .i64 v]] w fun e w' => e = .returned (.bool q) ∧ Below w.heap.size w w' := by
  rw [← hq]; exact sOn_any a b c d u v w h1 h2 h3

end Go.Proofs.Ytegcjdcinebleaa
