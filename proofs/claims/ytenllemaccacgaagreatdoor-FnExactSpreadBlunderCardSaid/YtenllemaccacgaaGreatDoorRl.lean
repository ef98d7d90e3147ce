/-
  Steps of the laws on spreads: a quotient answered and put into a block of its own; facts on the answers.
-/
import Derived.Test.YtenllemaccacgaaGreatDoorRe
import Derived.Test.YtenllemaccacgaaGreatDoorRn
namespace Go.Proofs.YtenllemaccacgaaGreatDoor
open Go.RowKit
set_option linter.unusedVariables false

theorem new_cell {P wi : World} (hb : Below P.heap.size P wi) (x y : Int) (T : TypeId) : ∃ (V : World) (X : Nat), V = wi.alloc (.cells #[.int .i64 x, .int .i64 y] T) ∧ X = wi.heap.size ∧ Cell2 V X x y ∧ Below P.heap.size P V ∧ P.heap.size ≤ X :=
  ⟨_, _, rfl, rfl, Cell2.new wi x y T, hb.trans (((Below.refl wi.heap.size wi).alloc (Nat.le_refl _) _).mono hb.size), hb.size⟩
theorem spr_sym {N i j : Nat} {rs : List Rn} : sprT N rs j i = sprT N rs i j ∧ sprL N rs j i = sprL N rs i j := by
  unfold sprT sprL; rw [spN_sym]; exact ⟨rfl, rfl⟩
theorem spr_zero {N i j : Nat} {rs : List Rn} (hw : nWhole (N : Int) rs = true) (hi : i < N) (hj : j < N) (hij : i ≠ j) : 0 < sprT N rs i j := by
  have hn := whole_nok hw
  have h1 := spN_pos (nOk_in hn) (wgt1 hn) (by omega) hi ((whole_spn hn).1 hw) hij
  have h2 := trN_pos1 hw
  have h3 := Quo.T_nn (a := spN N rs i j) (b := trN N rs) (by omega) h2
  have h4 := Quo.T_zero_iff (a := spN N rs i j) (b := trN N rs) (by omega)
  unfold sprT
  rcases Int.lt_or_eq_of_le h3 with h | h
  · exact h
  · have := h4.1 h.symm; omega
theorem whole_s (x : Int) (w : World) :
    Calls Tryz.prog 13 #[.int .i64 x] w fun e w' => e = .returned (.agg #[.int .i64 x, .int .i64 1]) ∧ Below w.heap.size w w' := by
  go_enter Tryz.func13, Tryz.ntmps13
  go_wp2_with fail
  refine bodyPost_ret (v := .agg #[.int .i64 x, .int .i64 1]) (by simp [results, Tryz.results13, go_sem]) rfl ⟨rfl, (by repeat (first | assumption | exact Below.refl _ _ | (refine below_chain ?_ (by assumption) (by first | omega | (simp <;> omega) | simp)) | (refine Below.alloc ?_ (by first | omega | (simp <;> omega) | simp) _) | (apply below_drewN) | (apply below_drew) | (refine Below.setCell ?_ (by first | omega | (simp <;> omega) | simp) _)))⟩
/-- the order of two values over one number -/
theorem order_val {t l s m A B D : Int} (h1 : Quo.Val t l A D) (h2 : Quo.Val s m B D) (hD : 0 < D) : Quo.both t l s m = true ∧ Quo.gS (Quo.both t l s m) (t * m - s * l) = Quo.sg (A - B) := by
  have hb : Quo.both t l s m = true := by unfold Quo.both; rw [h1.1, h2.1]; rfl
  refine ⟨hb, ?_⟩
  have e := Quo.sg_TL (a := A) (a' := B) hD
  rw [h1.TL.1, h1.TL.2, h2.TL.1, h2.TL.2] at e
  unfold Quo.gS
  rw [hb]
  exact e
theorem sg_le {x : Int} (h : x ≤ 0) : Quo.sg x ≤ 0 := by unfold Quo.sg; split <;> (try split) <;> omega
theorem sg_pos {x : Int} : 0 < Quo.sg x ↔ 0 < x := by unfold Quo.sg; split <;> (try split) <;> omega
theorem sg_nil {x : Int} : Quo.sg x = 0 ↔ x = 0 := by unfold Quo.sg; split <;> (try split) <;> omega
/-- sums of values over one number -/
theorem add_val {t l s m A B D : Int} (h1 : Quo.Val t l A D) (h2 : Quo.Val s m B D) (hq : Quo.qO (A + B) D = true) : ∃ a b, (Quo.gT (Quo.both t l s m) (t * m + s * l) (l * m) = a ∧ Quo.gL (Quo.both t l s m) (t * m + s * l) (l * m) = b ∧ Quo.gOk (Quo.both t l s m) (t * m + s * l) (l * m) = true) ∧ Quo.Val a b (A + B) D := by
  have h := h1.add h2
  exact ⟨_, _, ⟨rfl, rfl, h.1.trans hq⟩, by rw [(h.2.1 hq).1, (h.2.1 hq).2]; exact Quo.Val.of h1.2.1 hq⟩
end Go.Proofs.YtenllemaccacgaaGreatDoor
