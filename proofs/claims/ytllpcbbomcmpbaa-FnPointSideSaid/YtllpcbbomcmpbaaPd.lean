/-
  What PointSide and PointOn of the program answer, as functions on coordinates.
-/
import Derived.Test.YtllpcbbomcmpbaaPb
namespace Go.Proofs.Ytllpcbbomcmpbaa
open Go.RowKit
set_option linter.unusedVariables false

theorem nan_any (a : Int) (w : World) :
    Calls Try.prog 59 #[.int .i64 a] w fun e w' => e = .returned (.bool false) ∧ w = w' := by
  go_enter Try.func59, Try.ntmps59
  go_wp2
  go_ret
  exact ⟨ret_bool (by simp), rfl⟩
theorem compare_any (a b : Int) (w : World) :
    Calls Try.prog 48 #[.int .i64 a, .int .i64 b] w fun e w' => e = .returned (.int .i64 (if a < b then -1 else if b < a then 1 else 0)) ∧ w = w' := by
  by_cases h1 : a < b
  · simp only [h1, if_true]
    go_enter Try.func48, Try.ntmps48
    go_wp2_with ((go_at_call 59; (with_reducible refine (nan_any _ _).mono ?_); rintro e w' ⟨rfl, rfl⟩))
    go_ret
    exact ⟨rfl, rfl⟩
  · by_cases h2 : b < a
    · simp only [h1, h2, if_true, if_false]
      go_enter Try.func48, Try.ntmps48
      go_wp2_with ((go_at_call 59; (with_reducible refine (nan_any _ _).mono ?_); rintro e w' ⟨rfl, rfl⟩))
      go_ret
      exact ⟨rfl, rfl⟩
    · simp only [h1, h2, if_false]
      go_enter Try.func48, Try.ntmps48
      go_wp2_with ((go_at_call 59; (with_reducible refine (nan_any _ _).mono ?_); rintro e w' ⟨rfl, rfl⟩))
      go_ret
      exact ⟨rfl, rfl⟩
theorem compare_is (a b s : Int) (w : World) (h : (if a < b then -1 else if b < a then 1 else 0) = s) :
    Calls Try.prog 48 #[.int .i64 a, .int .i64 b] w fun e w' => e = .returned (.int .i64 s) ∧ w = w' := by
  rw [← h]; exact compare_any a b w

theorem iSide_no (a b c d u v : Int) (w : World) (h : three a b c d u v = false) :
    Calls Try.prog 21 #[.agg #[.int .i64 a, .int .i64 b], .agg #[.int .i64 c, .int .i64 d], .agg #[.int .i64 u, .int .i64 v]] w fun e w' => e = .returned (.tuple #[.int .i64 0, .bool false]) ∧ Below w.heap.size w w' := by
  go_enter Try.func21, Try.ntmps21
  go_wp2_with ((go_at_call 38; (with_reducible refine (valid3 a b c d u v false _ _ ?_ ?_ ?_ ?_ ?_ ?_ ?_ h).mono ?_); (focus ((first | (simp; omega) | omega | (simp [*, go_sem]; done) | (simp; done)); done)); (focus ((first | (simp; omega) | omega | (simp [*, go_sem]; done) | (simp; done)); done)); (focus ((first | (simp; omega) | omega | (simp [*, go_sem]; done) | (simp; done)); done)); (focus ((first | (simp; omega) | omega | (simp [*, go_sem]; done) | (simp; done)); done)); (focus ((first | (simp; omega) | omega | (simp [*, go_sem]; done) | (simp; done)); done)); (focus ((first | (simp; omega) | omega | (simp [*, go_sem]; done) | (simp; done)); done)); (focus ((first | (simp; omega) | omega | (simp [*, go_sem]; done) | (simp; done)); done)); rintro e wv ⟨rfl, hbn⟩; obtain ⟨hcn, hfn⟩ := bcell hbn; (try simp only [World.size_drew, World.cell?_drew, World.frozen?_drew] at hcn hfn); have hsz := hbn.size; (try simp at hsz); (try have hsl := Nat.lt_of_succ_le hsz); (try have hz0 : w.heap.size < wv.heap.size := (by have := hbn.size; (try simp at this); omega)); (try have hz1 : w.heap.size + 1 < wv.heap.size := (by have := hbn.size; (try simp at this); omega)); (try have hz2 : w.heap.size + 1 + 1 < wv.heap.size := (by have := hbn.size; (try simp at this); omega)); (try have hz3 : w.heap.size + 1 + 1 + 1 < wv.heap.size := (by have := hbn.size; (try simp at this); omega))))
  go_ret2
  exact ⟨rfl, (by repeat (first | assumption | exact Below.refl _ _ | (refine below_chain ?_ (by assumption) (by first | omega | (simp <;> omega) | simp)) | (refine Below.alloc ?_ (by first | omega | (simp <;> omega) | simp) _) | (apply below_drewN) | (apply below_drew) | (refine Below.setCell ?_ (by first | omega | (simp <;> omega) | simp) _)))⟩
set_option maxHeartbeats 4000000 in
theorem iSide_yes (a b c d u v s : Int) (w : World) (h : three a b c d u v = true) (hs : (if Pt.cr (c - a) (d - b) (u - a) (v - b) < 0 then -1 else if 0 < Pt.cr (c - a) (d - b) (u - a) (v - b) then 1 else 0) = s) :
    Calls Try.prog 21 #[.agg #[.int .i64 a, .int .i64 b], .agg #[.int .i64 c, .int .i64 d], .agg #[.int .i64 u, .int .i64 v]] w fun e w' => e = .returned (.tuple #[.int .i64 s, .bool true]) ∧ Below w.heap.size w w' := by
  obtain ⟨h1, h2, h3⟩ := three_true h
  have cv := fun B w hB a0 a1 a2 a3 a4 a5 => Lib.hid (valid3 a b c d u v true B w hB a0 a1 a2 a3 a4 a5 h)
  have ct := fun w => Lib.hid (to_any a b c d w h1 h2)
  have cu := fun w => Lib.hid (to_any a b u v w h1 h3)
  have cc := fun w => Lib.hid (cross_any (c - a) (d - b) (u - a) (v - b) w (Pt.sv_of h1 h2) (Pt.sv_of h1 h3))
  have cp := fun w => Lib.hid (compare_is _ _ s w hs)
  clear h h1 h2 h3 hs
  go_enter Try.func21, Try.ntmps21
  go_wp2_with (first | (go_at_call 38; (with_reducible refine ((cv _ _ ?_ ?_ ?_ ?_ ?_ ?_ ?_).out).mono ?_); (focus ((first | (simp; omega) | omega | (simp [*, go_sem]; done) | (simp; done)); done)); (focus ((first | (simp; omega) | omega | (simp [*, go_sem]; done) | (simp; done)); done)); (focus ((first | (simp; omega) | omega | (simp [*, go_sem]; done) | (simp; done)); done)); (focus ((first | (simp; omega) | omega | (simp [*, go_sem]; done) | (simp; done)); done)); (focus ((first | (simp; omega) | omega | (simp [*, go_sem]; done) | (simp; done)); done)); (focus ((first | (simp; omega) | omega | (simp [*, go_sem]; done) | (simp; done)); done)); (focus ((first | (simp; omega) | omega | (simp [*, go_sem]; done) | (simp; done)); done)); rintro e wv ⟨rfl, hbn⟩; obtain ⟨hcn, hfn⟩ := bcell hbn; (try simp only [World.size_drew, World.cell?_drew, World.frozen?_drew] at hcn hfn); have hsz := hbn.size; (try simp at hsz); (try have hsl := Nat.lt_of_succ_le hsz); (try have hz0 : w.heap.size < wv.heap.size := (by have := hbn.size; (try simp at this); omega)); (try have hz1 : w.heap.size + 1 < wv.heap.size := (by have := hbn.size; (try simp at this); omega)); (try have hz2 : w.heap.size + 1 + 1 < wv.heap.size := (by have := hbn.size; (try simp at this); omega)); (try have hz3 : w.heap.size + 1 + 1 + 1 < wv.heap.size := (by have := hbn.size; (try simp at this); omega))) | (go_at_call 39; (with_reducible refine (placeOf_any a b _).mono ?_); rintro e w0 ⟨rfl, hbn⟩; obtain ⟨hcn, hfn⟩ := bcell hbn; (try simp only [World.size_drew, World.cell?_drew, World.frozen?_drew] at hcn hfn); have hsz := hbn.size; (try simp at hsz); (try have hsl := Nat.lt_of_succ_le hsz); (try have hz0 : w.heap.size < w0.heap.size := (by have := hbn.size; (try simp at this); omega)); (try have hz1 : w.heap.size + 1 < w0.heap.size := (by have := hbn.size; (try simp at this); omega)); (try have hz2 : w.heap.size + 1 + 1 < w0.heap.size := (by have := hbn.size; (try simp at this); omega)); (try have hz3 : w.heap.size + 1 + 1 + 1 < w0.heap.size := (by have := hbn.size; (try simp at this); omega)); (try have hz4 : wv.heap.size < w0.heap.size := (by have := hbn.size; (try simp at this); omega))))
  go_upto_region 5 with fail
  go_cut [6, 7, 9] (fun s6 s7 s9 wx => s6 = .int .i64 0 ∧ s7 = .bool false ∧ s9 = .int .i64 (Pt.cr (c - a) (d - b) (u - a) (v - b)) ∧ Below w.heap.size w wx)
  case first =>
    go_region_held3 (fun W => W.cell? ⟨w.heap.size + 1, 0, none⟩ = some (.int .i64 c) ∧ W.cell? ⟨w.heap.size + 1, 1, none⟩ = some (.int .i64 d) ∧ W.cell? ⟨w.heap.size + 1 + 1, 0, none⟩ = some (.int .i64 u) ∧ W.cell? ⟨w.heap.size + 1 + 1, 1, none⟩ = some (.int .i64 v) ∧ W.cell? ⟨w0.heap.size, 0, none⟩ = some (.int .i64 a) ∧ W.cell? ⟨w0.heap.size, 1, none⟩ = some (.int .i64 b)) (((try dsimp only); (try go_split_ands); refine ⟨?_, ?_, ?_, ?_, ?_, ?_⟩ <;> (first | ((repeat (first | with_reducible assumption | (with_reducible refine cell_below_keep (by with_reducible assumption) ?_) | (with_reducible refine cell_alloc_keep _ ?_) | (with_reducible refine cell_drew_keep ?_) | (with_reducible refine cell_drewN_keep _ ?_) | (with_reducible refine cell_set_keep _ (by first | (simp; omega) | omega) ?_))); done) | (simp [*, go_sem]; done))))
      (first | (go_at_call 39; (with_reducible refine (placeOf_any c d _).mono ?_); rintro e w1 ⟨rfl, hbn⟩; obtain ⟨hcn, hfn⟩ := bcell hbn; (try simp only [World.size_drew, World.cell?_drew, World.frozen?_drew] at hcn hfn); have hsz := hbn.size; (try simp at hsz); (try have hsl := Nat.lt_of_succ_le hsz); (try have hz0 : w.heap.size < w1.heap.size := (by have := hbn.size; (try simp at this); omega)); (try have hz1 : w.heap.size + 1 < w1.heap.size := (by have := hbn.size; (try simp at this); omega)); (try have hz2 : w.heap.size + 1 + 1 < w1.heap.size := (by have := hbn.size; (try simp at this); omega)); (try have hz3 : w.heap.size + 1 + 1 + 1 < w1.heap.size := (by have := hbn.size; (try simp at this); omega)); (try have hz4 : wv.heap.size < w1.heap.size := (by have := hbn.size; (try simp at this); omega)); (try have hz5 : w0.heap.size < w1.heap.size := (by have := hbn.size; (try simp at this); omega))) | (go_at_call 39; (with_reducible refine (placeOf_any u v _).mono ?_); rintro e w2 ⟨rfl, hbn⟩; obtain ⟨hcn, hfn⟩ := bcell hbn; (try simp only [World.size_drew, World.cell?_drew, World.frozen?_drew] at hcn hfn); have hsz := hbn.size; (try simp at hsz); (try have hsl := Nat.lt_of_succ_le hsz); (try have hz0 : w.heap.size < w2.heap.size := (by have := hbn.size; (try simp at this); omega)); (try have hz1 : w.heap.size + 1 < w2.heap.size := (by have := hbn.size; (try simp at this); omega)); (try have hz2 : w.heap.size + 1 + 1 < w2.heap.size := (by have := hbn.size; (try simp at this); omega)); (try have hz3 : w.heap.size + 1 + 1 + 1 < w2.heap.size := (by have := hbn.size; (try simp at this); omega)); (try have hz4 : wv.heap.size < w2.heap.size := (by have := hbn.size; (try simp at this); omega)); (try have hz5 : w0.heap.size < w2.heap.size := (by have := hbn.size; (try simp at this); omega)); (try have hz6 : w1.heap.size < w2.heap.size := (by have := hbn.size; (try simp at this); omega))) | (go_at_call 40; (with_reducible refine ((ct _).out).mono ?_); rintro e w3 ⟨rfl, hbn⟩; obtain ⟨hcn, hfn⟩ := bcell hbn; (try simp only [World.size_drew, World.cell?_drew, World.frozen?_drew] at hcn hfn); have hsz := hbn.size; (try simp at hsz); (try have hsl := Nat.lt_of_succ_le hsz); (try have hz0 : w.heap.size < w3.heap.size := (by have := hbn.size; (try simp at this); omega)); (try have hz1 : w.heap.size + 1 < w3.heap.size := (by have := hbn.size; (try simp at this); omega)); (try have hz2 : w.heap.size + 1 + 1 < w3.heap.size := (by have := hbn.size; (try simp at this); omega)); (try have hz3 : w.heap.size + 1 + 1 + 1 < w3.heap.size := (by have := hbn.size; (try simp at this); omega)); (try have hz4 : wv.heap.size < w3.heap.size := (by have := hbn.size; (try simp at this); omega)); (try have hz5 : w0.heap.size < w3.heap.size := (by have := hbn.size; (try simp at this); omega)); (try have hz6 : w1.heap.size < w3.heap.size := (by have := hbn.size; (try simp at this); omega)); (try have hz7 : w2.heap.size < w3.heap.size := (by have := hbn.size; (try simp at this); omega))) | (go_at_call 40; (with_reducible refine ((cu _).out).mono ?_); rintro e w4 ⟨rfl, hbn⟩; obtain ⟨hcn, hfn⟩ := bcell hbn; (try simp only [World.size_drew, World.cell?_drew, World.frozen?_drew] at hcn hfn); have hsz := hbn.size; (try simp at hsz); (try have hsl := Nat.lt_of_succ_le hsz); (try have hz0 : w.heap.size < w4.heap.size := (by have := hbn.size; (try simp at this); omega)); (try have hz1 : w.heap.size + 1 < w4.heap.size := (by have := hbn.size; (try simp at this); omega)); (try have hz2 : w.heap.size + 1 + 1 < w4.heap.size := (by have := hbn.size; (try simp at this); omega)); (try have hz3 : w.heap.size + 1 + 1 + 1 < w4.heap.size := (by have := hbn.size; (try simp at this); omega)); (try have hz4 : wv.heap.size < w4.heap.size := (by have := hbn.size; (try simp at this); omega)); (try have hz5 : w0.heap.size < w4.heap.size := (by have := hbn.size; (try simp at this); omega)); (try have hz6 : w1.heap.size < w4.heap.size := (by have := hbn.size; (try simp at this); omega)); (try have hz7 : w2.heap.size < w4.heap.size := (by have := hbn.size; (try simp at this); omega)); (try have hz8 : w3.heap.size < w4.heap.size := (by have := hbn.size; (try simp at this); omega))) | (go_at_call 47; (with_reducible refine ((cc _).out).mono ?_); rintro e w5 ⟨rfl, hbn⟩; obtain ⟨hcn, hfn⟩ := bcell hbn; (try simp only [World.size_drew, World.cell?_drew, World.frozen?_drew] at hcn hfn); have hsz := hbn.size; (try simp at hsz); (try have hsl := Nat.lt_of_succ_le hsz); (try have hz0 : w.heap.size < w5.heap.size := (by have := hbn.size; (try simp at this); omega)); (try have hz1 : w.heap.size + 1 < w5.heap.size := (by have := hbn.size; (try simp at this); omega)); (try have hz2 : w.heap.size + 1 + 1 < w5.heap.size := (by have := hbn.size; (try simp at this); omega)); (try have hz3 : w.heap.size + 1 + 1 + 1 < w5.heap.size := (by have := hbn.size; (try simp at this); omega)); (try have hz4 : wv.heap.size < w5.heap.size := (by have := hbn.size; (try simp at this); omega)); (try have hz5 : w0.heap.size < w5.heap.size := (by have := hbn.size; (try simp at this); omega))))
    all_goals go_wp2_with fail
    all_goals (go_meet; exact ⟨rfl, rfl, rfl, (by repeat (first | assumption | exact Below.refl _ _ | (refine below_chain ?_ (by assumption) (by first | omega | (simp <;> omega) | simp)) | (refine Below.alloc ?_ (by first | omega | (simp <;> omega) | simp) _) | (apply below_drewN) | (apply below_drew) | (refine Below.setCell ?_ (by first | omega | (simp <;> omega) | simp) _)))⟩)
  case rest =>
    obtain ⟨rfl, rfl, rfl, hb⟩ := hcut
    go_wp2_with ((go_at_call 48; (with_reducible refine ((cp _).out).mono ?_); rintro e w' ⟨rfl, rfl⟩))
    go_ret2
    exact ⟨rfl, hb⟩
end Go.Proofs.Ytllpcbbomcmpbaa
