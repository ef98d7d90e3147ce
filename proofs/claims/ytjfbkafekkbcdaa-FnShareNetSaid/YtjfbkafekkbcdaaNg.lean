/-
  What NetBack answers, in both programs; a clone of a list of runs.
-/
import Derived.Test.YtjfbkafekkbcdaaNl
import Derived.Test.YtjfbkafekkbcdaaNf
import Derived.Test.YtjfbkafekkbcdaaApp
import Derived.Laws.Cover3
namespace Go.Proofs.Ytjfbkafekkbcdaa
open Go.RowKit
set_option linter.unusedVariables false

theorem runs_not_nil (a : Addr) (l c : Nat) (w : World) : (binOp .eql 39 (.slice (some a) l c) (.slice none 0 0)).run Try.prog w = .ok (.bool false) w := by
  have h := run_equal_slice_nil (P := Try.prog) w 39 41 (some a) l c Try.underlying39
  simp [binOp, h]
def turnR (r : Rn) : Rn := ⟨r.t, r.f, -r.s, r.g⟩
theorem turned_is (f t s g : Int) (w : World) (h1 : -100000 ≤ s) (h2 : s ≤ 100000) :
    Calls Try.prog 62 #[.agg #[.int .i64 f, .int .i64 t, .int .i64 s, .int .i64 g]] w fun e w' => e = .returned (.agg #[.int .i64 t, .int .i64 f, .int .i64 (-s), .int .i64 g]) ∧ Below w.heap.size w w' := by
  go_enter Try.func62, Try.ntmps62
  go_wp2
  exact bodyPost_ret (v := .agg #[.int .i64 t, .int .i64 f, .int .i64 (-s), .int .i64 g]) (by simp [results, Try.results62, go_sem]) rfl ⟨rfl, (by repeat (first | assumption | exact Below.refl _ _ | (refine below_chain ?_ (by assumption) (by first | omega | (simp <;> omega) | simp)) | (refine Below.alloc ?_ (by first | omega | (simp <;> omega) | simp) _) | (apply below_drewN) | (apply below_drew) | (refine Below.setCell ?_ (by first | omega | (simp <;> omega) | simp) _)))⟩

theorem runs_cells {w : World} {B o : Nat} {rs : List Rn} (h : Runs w (some ⟨B, o, none⟩) rs) : ∀ (j : Nat) (z : Int), (flat rs)[j]? = some z → w.cell? ((⟨B, o, none⟩ : Addr).add j) = some (.int .i64 z) := by
  rcases h with rfl | ⟨B', o', e, hB, hc⟩
  · intro j z h; simp [flat] at h
  · simp at e
    obtain ⟨rfl, rfl⟩ := e
    intro j z hj
    rw [Go.WideShapes.add_plain]
    have hlt : j < rs.length * 4 := by have := (List.getElem?_eq_some_iff.1 hj).1; rw [flat_len] at this; exact this
    have hi : j / 4 < rs.length := by omega
    obtain ⟨x0, x1, x2, x3⟩ := hc (j / 4) _ (List.getElem?_eq_getElem hi)
    obtain ⟨y0, y1, y2, y3⟩ := flat_at (List.getElem?_eq_getElem hi)
    rcases (show j % 4 = 0 ∨ j % 4 = 1 ∨ j % 4 = 2 ∨ j % 4 = 3 by omega) with e | e | e | e
    · have ej : j = j / 4 * 4 := by omega
      rw [ej] at hj ⊢; rw [y0] at hj; cases hj; exact x0
    · have ej : j = j / 4 * 4 + 1 := by omega
      rw [ej] at hj ⊢; rw [y1] at hj; cases hj; exact x1
    · have ej : j = j / 4 * 4 + 2 := by omega
      rw [ej] at hj ⊢; rw [y2] at hj; cases hj; exact x2
    · have ej : j = j / 4 * 4 + 3 := by omega
      rw [ej] at hj ⊢; rw [y3] at hj; cases hj; exact x3

/-- the answer of a call that makes a new list of runs -/
def NewRuns (w : World) (rs : List Rn) (v : Value) (w' : World) : Prop :=
  ∃ g cap, v = .slice (some ⟨g, 0, none⟩) rs.length cap ∧ w.heap.size ≤ g ∧ Own w' g 41 4 rs.length cap (flat rs) ∧ Below w.heap.size w w'
theorem hasRun_nat {rs : List Rn} {k : Int} (h : 0 ≤ k ∧ k < rs.length) : ∃ (j : Nat) (r : Rn), k = (j : Int) ∧ j < rs.length ∧ rs[j]? = some r :=
  ⟨k.toNat, rs[k.toNat]'(by omega), by omega, by omega, List.getElem?_eq_getElem (by omega)⟩

end Go.Proofs.Ytjfbkafekkbcdaa
