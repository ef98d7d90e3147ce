/-
  What the draws of two and of three points give: whatever the code, points whose coordinates lie within 10001 (a third one within 50000), by new memory alone.
-/
import Derived.Test.YtigmhhdbldlgaaaDPt
namespace Go.Proofs.Ytigmhhdbldlgaaa
open Go.RowKit
set_option linter.unusedVariables false

theorem code_below {w w' : World} {v : Value} (h : Code' w v) (hb : Below w.heap.size w w') : Code' w' v := by
  rcases h with ⟨a, c, rfl⟩ | ⟨D, off, len, cap, f, rfl, h1, h2, h3, h4, h5⟩
  · exact .inl ⟨a, c, rfl⟩
  · refine .inr ⟨D, off, len, cap, f, rfl, h1, h2, h3, Nat.lt_of_lt_of_le h4 hb.size, fun j hj => ?_⟩
    rw [hb.cell (p := ⟨D, off + j, none⟩) h4]
    exact h5 j hj

theorem cell_gb_keep {w w' : World} {b o R : Nat} {v : Value} (hg : w.grownBy w' (some R)) (hb : b ≠ R) (h : w.cell? ⟨b, o, none⟩ = some v) : w'.cell? ⟨b, o, none⟩ = some v :=
  ((gcell hg).1 b o (World.block_lt_of_cell? w _ h) hb).trans h
def Near (a b : Int) : Prop := -50000 ≤ a ∧ a ≤ 50000 ∧ -50000 ≤ b ∧ b ≤ 50000
theorem near {a b : Int} (h1 : -10001 ≤ a) (h2 : a ≤ 10001) (h3 : -10001 ≤ b) (h4 : b ≤ 10001) : Near a b := ⟨by omega, by omega, by omega, by omega⟩
def D2 (w : World) (e : Ending) (w' : World) : Prop :=
  ∃ a b c d : Int, Near a b ∧ Near c d ∧ e = .returned (.tuple #[.agg #[.int .i64 a, .int .i64 b], .agg #[.int .i64 c, .int .i64 d]]) ∧ Below w.heap.size w w'
def D3 (w : World) (e : Ending) (w' : World) : Prop :=
  ∃ a b c d u v : Int, e = .returned (.tuple #[.agg #[.int .i64 a, .int .i64 b], .agg #[.int .i64 c, .int .i64 d], .agg #[.int .i64 u, .int .i64 v]]) ∧ Below w.heap.size w w'
def D3R (R : Nat) (w : World) (e : Ending) (w' : World) : Prop :=
  ∃ a b c d u v : Int, e = .returned (.tuple #[.agg #[.int .i64 a, .int .i64 b], .agg #[.int .i64 c, .int .i64 d], .agg #[.int .i64 u, .int .i64 v]]) ∧ w.grownBy w' (some R)

set_option maxHeartbeats 4000000 in
theorem drawStep_any (v : Value) (w : World) (h : Hid (Code' w v)) :
    Calls Try.prog 17 #[v] w (D2 w) := by
  go_enter Try.func17, Try.ntmps17
  go_wp2_with (first | (go_at_call 47; (with_reducible refine (open_any _ _ (Lib.hid (code_below h.out ?_))).mono ?_); (focus ((repeat (first | assumption | exact Below.refl _ _ | (refine below_chain ?_ (by assumption) (by first | omega | (simp <;> omega) | simp)) | (refine Below.alloc ?_ (by first | omega | (simp <;> omega) | simp) _) | (apply below_drewN) | (apply below_drew) | (refine Below.setCell ?_ (by first | omega | (simp <;> omega) | simp) _))); done)); rintro e wo ⟨rfl, hRn, hbn, hszo⟩; obtain ⟨hcn, hfn⟩ := bcell hbn; have hsz := Nat.le_of_eq hszo.symm; (try simp at hsz); (try simp at hRn); have hsl := Nat.lt_of_succ_le hsz; (try have hzo : w.heap.size < wo.heap.size := by omega); (try have hzo1 : w.heap.size + 1 < wo.heap.size := by omega); (try have hzo2 : w.heap.size + 1 + 1 < wo.heap.size := by omega); (try have hzo3 : w.heap.size + 1 + 1 + 1 < wo.heap.size := by omega); clear hszo) | (go_at_call 48; (with_reducible refine (dpt_any 0 _ _ ?_ (by omega)).mono ?_); (focus ((repeat (first | with_reducible assumption | (with_reducible refine rdr_drewN ?_ _) | (with_reducible refine rdr_drew ?_) | (with_reducible refine rdr_alloc ?_ _) | (with_reducible refine rdr_setCell ?_ (by first | omega | (simp <;> omega) | simp) _) | (with_reducible refine rdr_chain ?_ (by with_reducible assumption)))); done)); rintro e wa ⟨a0, b0, q0, q1, q2, q3, rfl, hRn, hgn⟩; obtain ⟨hcn, hfn⟩ := gcell hgn; (try simp only [World.size_drew, World.cell?_drew, World.frozen?_drew, World.heap_drewN, World.cell?_drewN, World.frozen?_drewN] at hcn hfn); have hsz := hgn.size; (try simp at hsz); (try have hsl := Nat.lt_of_succ_le hsz); (try have hz0 : w.heap.size < wa.heap.size := (by have := hgn.size; (try simp at this); omega)); (try have hz1 : w.heap.size + 1 < wa.heap.size := (by have := hgn.size; (try simp at this); omega)); (try have hq0 : w.heap.size ≠ (w.heap.size + 1 + 1) := (by omega)); (try have hq1 : w.heap.size + 1 ≠ (w.heap.size + 1 + 1) := (by omega)); (try have hle0 : w.heap.size ≤ wa.heap.size := (by omega)); (try have hx0 : w.heap.size ≤ wa.heap.size + 1 := (by omega)); (try have hle1 : w.heap.size + 1 ≤ wa.heap.size := (by omega)); (try have hx1 : w.heap.size + 1 ≤ wa.heap.size + 1 := (by omega))))
  go_region_with ((go_at_call 48; (with_reducible refine (dpt_any (0 + 5) _ _ ?_ (by omega)).mono ?_); (focus ((repeat (first | with_reducible assumption | (with_reducible refine rdr_drewN ?_ _) | (with_reducible refine rdr_drew ?_) | (with_reducible refine rdr_alloc ?_ _) | (with_reducible refine rdr_setCell ?_ (by first | omega | (simp <;> omega) | simp) _) | (with_reducible refine rdr_chain ?_ (by with_reducible assumption)))); done)); rintro e wb ⟨c0, d0, s0, s1, s2, s3, rfl, hRn, hgn⟩; obtain ⟨hcn, hfn⟩ := gcell hgn; (try simp only [World.size_drew, World.cell?_drew, World.frozen?_drew, World.heap_drewN, World.cell?_drewN, World.frozen?_drewN] at hcn hfn); have hsz := hgn.size; (try simp at hsz); (try have hsl := Nat.lt_of_succ_le hsz); (try have hz0 : w.heap.size < wb.heap.size := (by have := hgn.size; (try simp at this); omega)); (try have hz1 : w.heap.size + 1 < wb.heap.size := (by have := hgn.size; (try simp at this); omega)); (try have hz2 : wa.heap.size < wb.heap.size := (by have := hgn.size; (try simp at this); omega)); (try have hq0 : w.heap.size ≠ (w.heap.size + 1 + 1) := (by omega)); (try have hq1 : w.heap.size + 1 ≠ (w.heap.size + 1 + 1) := (by omega)); (try have hq2 : wa.heap.size ≠ (w.heap.size + 1 + 1) := (by omega)); (try have hle0 : w.heap.size ≤ wb.heap.size := (by omega)); (try have hx0 : w.heap.size ≤ wb.heap.size + 1 := (by omega)); (try have hle1 : w.heap.size + 1 ≤ wb.heap.size := (by omega)); (try have hx1 : w.heap.size + 1 ≤ wb.heap.size + 1 := (by omega)); (try have hle2 : wa.heap.size ≤ wb.heap.size := (by omega)); (try have hx2 : wa.heap.size ≤ wb.heap.size + 1 := (by omega))))
  all_goals go_wp2_with fail
  all_goals
    have e0 : wb.cell? ⟨w.heap.size, 0, none⟩ = some (.int .i64 0) := by simp [*, go_sem]
    have e1 : wb.cell? ⟨w.heap.size, 1, none⟩ = some (.int .i64 0) := by simp [*, go_sem]
    have e2 : wb.cell? ⟨w.heap.size + 1, 0, none⟩ = some (.int .i64 0) := by simp [*, go_sem]
    have e3 : wb.cell? ⟨w.heap.size + 1, 1, none⟩ = some (.int .i64 0) := by simp [*, go_sem]
    exact bodyPost_ret (v := .tuple #[.agg #[.int .i64 a0, .int .i64 b0], .agg #[.int .i64 c0, .int .i64 d0]]) (by simp [results, Try.results17, go_sem, e0, e1, e2, e3]) rfl ⟨a0, b0, c0, d0, near q0 q1 q2 q3, near s0 s1 s2 s3, rfl, (by repeat (first | with_reducible assumption | with_reducible exact Below.refl _ _ | (with_reducible refine below_chain ?_ (by with_reducible assumption) (by first | omega | (simp <;> omega) | simp)) | (with_reducible refine below_gb ?_ (by with_reducible assumption) (by first | omega | (simp <;> omega) | simp) (by first | omega | (simp <;> omega) | simp)) | (with_reducible refine Below.alloc ?_ (by first | omega | (simp <;> omega) | simp) _) | (with_reducible refine below_drewN ?_ _) | (with_reducible refine below_drew ?_) | (with_reducible refine Below.setCell ?_ (by first | omega | (simp <;> omega) | simp) _)))⟩

set_option maxHeartbeats 4000000 in
theorem drawFar_any (v : Value) (w : World) (h : Hid (Code' w v)) :
    Calls Try.prog 29 #[v] w (D2 w) := by
  go_enter Try.func29, Try.ntmps29
  go_wp2_with (go_at_call 17; (with_reducible refine (drawStep_any _ _ (Lib.hid (code_below h.out ?_))).mono ?_); (focus ((repeat (first | assumption | exact Below.refl _ _ | (refine below_chain ?_ (by assumption) (by first | omega | (simp <;> omega) | simp)) | (refine Below.alloc ?_ (by first | omega | (simp <;> omega) | simp) _) | (apply below_drewN) | (apply below_drew) | (refine Below.setCell ?_ (by first | omega | (simp <;> omega) | simp) _))); done)); rintro e wa ⟨a0, b0, c0, d0, n1, n2, rfl, hba⟩; obtain ⟨hcn, hfn⟩ := bcell hba; have hsd := hba.size; (try simp at hsd))
  have e0 : wa.cell? ⟨w.heap.size, 0, none⟩ = some (.int .i64 0) := by simp [*, go_sem]
  have e1 : wa.cell? ⟨w.heap.size, 1, none⟩ = some (.int .i64 0) := by simp [*, go_sem]
  have e2 : wa.cell? ⟨w.heap.size + 1, 0, none⟩ = some (.int .i64 0) := by simp [*, go_sem]
  have e3 : wa.cell? ⟨w.heap.size + 1, 1, none⟩ = some (.int .i64 0) := by simp [*, go_sem]
  exact bodyPost_ret (v := .tuple #[.agg #[.int .i64 a0, .int .i64 b0], .agg #[.int .i64 c0, .int .i64 d0]]) (by simp [results, Try.results29, go_sem, e0, e1, e2, e3]) rfl ⟨a0, b0, c0, d0, n1, n2, rfl, (by repeat (first | with_reducible assumption | with_reducible exact Below.refl _ _ | (with_reducible refine below_chain ?_ (by with_reducible assumption) (by first | omega | (simp <;> omega) | simp)) | (with_reducible refine below_gb ?_ (by with_reducible assumption) (by first | omega | (simp <;> omega) | simp) (by first | omega | (simp <;> omega) | simp)) | (with_reducible refine Below.alloc ?_ (by first | omega | (simp <;> omega) | simp) _) | (with_reducible refine below_drewN ?_ _) | (with_reducible refine below_drew ?_) | (with_reducible refine Below.setCell ?_ (by first | omega | (simp <;> omega) | simp) _)))⟩

set_option maxHeartbeats 4000000 in
theorem drawGaps_any (v : Value) (w : World) (h : Hid (Code' w v)) :
    Calls Try.prog 27 #[v] w (D2 w) := by
  go_enter Try.func27, Try.ntmps27
  go_wp2_with (go_at_call 17; (with_reducible refine (drawStep_any _ _ (Lib.hid (code_below h.out ?_))).mono ?_); (focus ((repeat (first | assumption | exact Below.refl _ _ | (refine below_chain ?_ (by assumption) (by first | omega | (simp <;> omega) | simp)) | (refine Below.alloc ?_ (by first | omega | (simp <;> omega) | simp) _) | (apply below_drewN) | (apply below_drew) | (refine Below.setCell ?_ (by first | omega | (simp <;> omega) | simp) _))); done)); rintro e wa ⟨a0, b0, c0, d0, n1, n2, rfl, hba⟩; obtain ⟨hcn, hfn⟩ := bcell hba; have hsd := hba.size; (try simp at hsd))
  have e0 : wa.cell? ⟨w.heap.size, 0, none⟩ = some (.int .i64 0) := by simp [*, go_sem]
  have e1 : wa.cell? ⟨w.heap.size, 1, none⟩ = some (.int .i64 0) := by simp [*, go_sem]
  have e2 : wa.cell? ⟨w.heap.size + 1, 0, none⟩ = some (.int .i64 0) := by simp [*, go_sem]
  have e3 : wa.cell? ⟨w.heap.size + 1, 1, none⟩ = some (.int .i64 0) := by simp [*, go_sem]
  exact bodyPost_ret (v := .tuple #[.agg #[.int .i64 a0, .int .i64 b0], .agg #[.int .i64 c0, .int .i64 d0]]) (by simp [results, Try.results27, go_sem, e0, e1, e2, e3]) rfl ⟨a0, b0, c0, d0, n1, n2, rfl, (by repeat (first | with_reducible assumption | with_reducible exact Below.refl _ _ | (with_reducible refine below_chain ?_ (by with_reducible assumption) (by first | omega | (simp <;> omega) | simp)) | (with_reducible refine below_gb ?_ (by with_reducible assumption) (by first | omega | (simp <;> omega) | simp) (by first | omega | (simp <;> omega) | simp)) | (with_reducible refine Below.alloc ?_ (by first | omega | (simp <;> omega) | simp) _) | (with_reducible refine below_drewN ?_ _) | (with_reducible refine below_drew ?_) | (with_reducible refine Below.setCell ?_ (by first | omega | (simp <;> omega) | simp) _)))⟩

end Go.Proofs.Ytigmhhdbldlgaaa
