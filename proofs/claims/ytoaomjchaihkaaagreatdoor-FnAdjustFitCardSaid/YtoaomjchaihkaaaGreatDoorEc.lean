/-
  Quotients that stand for values over one number: sums, differences and products of them, and when they are valid. No function of the program is named.
-/
import Derived.Test.YtoaomjchaihkaaaGreatDoorQM2
namespace Quo
set_option linter.unusedVariables false

/-- the valid quotient t/l has the value N/D -/
def Val (t l N D : Int) : Prop := qv t l = true ∧ D ≠ 0 ∧ t * D = N * l
/-- the value N/D is a valid quotient -/
def qO (N D : Int) : Bool := qv (T N D) (L N D)
theorem eq_of_cross0 {t l t' l' : Int} (h1 : Int.gcd t l = 1) (h2 : 0 < l) (h3 : Int.gcd t' l' = 1) (h4 : 0 < l') (hx : t * l' = t' * l) : t = t' ∧ l = l' := by
  have d1 : l ∣ l' := by
    have : l ∣ t * l' := by rw [hx]; exact Int.dvd_mul_left _ _
    exact coprime_dvd h1 this
  have d2 : l' ∣ l := by
    have : l' ∣ t' * l := by rw [← hx]; exact Int.dvd_mul_left _ _
    exact coprime_dvd h3 this
  have e : l = l' := Int.dvd_antisymm (by omega) (by omega) d1 d2
  subst e
  exact ⟨Int.eq_of_mul_eq_mul_right (by omega) hx, rfl⟩
theorem cross_trans {t l t' l' N D : Int} (hD : D ≠ 0) (h1 : t * D = N * l) (h2 : t' * D = N * l') : t * l' = t' * l := by
  apply Int.eq_of_mul_eq_mul_right hD
  grind
theorem cross_trans2 {t l t' l' N D N' D' : Int} (hD : D ≠ 0) (hD' : D' ≠ 0) (h1 : t * D = N * l) (h2 : t' * D' = N' * l') (h : N * D' = N' * D) : t * l' = t' * l := by
  apply Int.eq_of_mul_eq_mul_right hD
  apply Int.eq_of_mul_eq_mul_right hD'
  grind
theorem TL_val {N D N' D' : Int} (hD : D ≠ 0) (hD' : D' ≠ 0) (h : N * D' = N' * D) : T N D = T N' D' ∧ L N D = L N' D' :=
  eq_of_cross0 (TL_gcd hD) (L_pos0 hD) (TL_gcd hD') (L_pos0 hD') (cross_trans2 hD hD' (TL_cross hD) (TL_cross hD') h)
theorem qO_val {N D N' D' : Int} (hD : D ≠ 0) (hD' : D' ≠ 0) (h : N * D' = N' * D) : qO N D = qO N' D' := by
  unfold qO; rw [(TL_val hD hD' h).1, (TL_val hD hD' h).2]
theorem Val.TL {t l N D : Int} (h : Val t l N D) : T N D = t ∧ L N D = l := by
  obtain ⟨h1, h2, h3⟩ := h
  obtain ⟨a1, -, -, -, a5⟩ := qv_true h1
  exact eq_of_cross0 (TL_gcd h2) (L_pos0 h2) a5 (by omega) (cross_trans h2 (TL_cross h2) h3)
theorem Val.ok {t l N D : Int} (h : Val t l N D) : qO N D = true := by unfold qO; rw [h.TL.1, h.TL.2]; exact h.1
theorem Val.of {N D : Int} (hD : D ≠ 0) (h : qO N D = true) : Val (T N D) (L N D) N D := ⟨h, hD, TL_cross hD⟩
theorem Val.uniq {t l s m N D : Int} (h : Val t l N D) (h' : Val s m N D) : t = s ∧ l = m := by
  rw [← h.TL.1, ← h.TL.2]; exact h'.TL
theorem Val.uniq2 {t l s m N D N' D' : Int} (h : Val t l N D) (h' : Val s m N' D') (hx : N * D' = N' * D) : t = s ∧ l = m := by
  rw [← h.TL.1, ← h.TL.2, ← h'.TL.1, ← h'.TL.2]; exact TL_val h.2.1 h'.2.1 hx
theorem Val.to {t l N D N' D' : Int} (h : Val t l N D) (hD' : D' ≠ 0) (hx : N * D' = N' * D) : Val t l N' D' := by
  refine ⟨h.1, hD', ?_⟩
  apply Int.eq_of_mul_eq_mul_right h.2.1
  have := h.2.2
  grind
theorem qv_whole {x : Int} (h1 : -1000000000 ≤ x) (h2 : x ≤ 1000000000) : qv x 1 = true := by
  unfold qv; simp [h1, h2]
theorem qv_whole_eq (x : Int) : qv x 1 = decide (-1000000000 ≤ x ∧ x ≤ 1000000000) := by
  unfold qv; simp
theorem Val.whole {x : Int} (h1 : -1000000000 ≤ x) (h2 : x ≤ 1000000000) {D : Int} (hD : D ≠ 0) : Val x 1 (x * D) D := ⟨qv_whole h1 h2, hD, by omega⟩
theorem T_zero {D : Int} (hD : D ≠ 0) : T 0 D = 0 ∧ L 0 D = 1 := (Val.TL ⟨qv_whole (by omega) (by omega), hD, by simp⟩)
/-- a difference, a sum, a product of values: whether it is valid, and what it is -/
theorem g_is {t l s m a b N D : Int} (h1 : qv t l = true) (h2 : qv s m = true) (ha : -4000000000000000000 ≤ a ∧ a ≤ 4000000000000000000) (hb : b ≠ 0) (hb' : -4000000000000000000 ≤ b ∧ b ≤ 4000000000000000000) (hD : D ≠ 0) (hx : a * D = N * b) :
    gOk (both t l s m) a b = qO N D ∧ (qO N D = true → gT (both t l s m) a b = T N D ∧ gL (both t l s m) a b = L N D) ∧ (qO N D = false → gT (both t l s m) a b = 0 ∧ gL (both t l s m) a b = 0) := by
  have hc : both t l s m = true := by unfold both; rw [h1, h2]; rfl
  have e := TL_val hb hD hx
  have hr : rOk a b = qO N D := by rw [rOk_in ha.1 ha.2 hb'.1 hb'.2 hb]; unfold qO; rw [e.1, e.2]
  unfold gOk gT gL
  rw [hc]
  refine ⟨by simpa using hr, fun h => ?_, fun h => ?_⟩
  · simp only [if_true]; rw [rT_ok (by rw [hr]; exact h), rL_ok (by rw [hr]; exact h)]; exact e
  · simp only [if_true]; rw [rT_no (by rw [hr]; exact h), rL_no (by rw [hr]; exact h)]; exact ⟨rfl, rfl⟩
theorem bd2 {t l s m : Int} (h1 : qv t l = true) (h2 : qv s m = true) : (-1000000000000000000 ≤ t * m ∧ t * m ≤ 1000000000000000000) ∧ (-1000000000000000000 ≤ s * l ∧ s * l ≤ 1000000000000000000) ∧ (-1000000000000000000 ≤ l * m ∧ l * m ≤ 1000000000000000000) ∧ (-1000000000000000000 ≤ t * s ∧ t * s ≤ 1000000000000000000) ∧ l * m ≠ 0 := by
  obtain ⟨a1, a2, a3, a4, -⟩ := qv_true h1
  obtain ⟨b1, b2, b3, b4, -⟩ := qv_true h2
  refine ⟨mul_bd a3 a4 (by omega) b2, mul_bd b3 b4 (by omega) a2, mul_bd (by omega) a2 (by omega) b2, mul_bd a3 a4 b3 b4, Int.mul_ne_zero (by omega) (by omega)⟩
theorem Val.take {t l s m N N' D : Int} (h : Val t l N D) (h' : Val s m N' D) :
    gOk (both t l s m) (t * m - s * l) (l * m) = qO (N - N') D ∧ (qO (N - N') D = true → gT (both t l s m) (t * m - s * l) (l * m) = T (N - N') D ∧ gL (both t l s m) (t * m - s * l) (l * m) = L (N - N') D) ∧ (qO (N - N') D = false → gT (both t l s m) (t * m - s * l) (l * m) = 0 ∧ gL (both t l s m) (t * m - s * l) (l * m) = 0) := by
  obtain ⟨b1, b2, b3, b4, b5⟩ := bd2 h.1 h'.1
  refine g_is h.1 h'.1 (by omega) b5 (by omega) h.2.1 ?_
  have h1 := h.2.2
  have h2 := h'.2.2
  grind
theorem Val.add {t l s m N N' D : Int} (h : Val t l N D) (h' : Val s m N' D) :
    gOk (both t l s m) (t * m + s * l) (l * m) = qO (N + N') D ∧ (qO (N + N') D = true → gT (both t l s m) (t * m + s * l) (l * m) = T (N + N') D ∧ gL (both t l s m) (t * m + s * l) (l * m) = L (N + N') D) ∧ (qO (N + N') D = false → gT (both t l s m) (t * m + s * l) (l * m) = 0 ∧ gL (both t l s m) (t * m + s * l) (l * m) = 0) := by
  obtain ⟨b1, b2, b3, b4, b5⟩ := bd2 h.1 h'.1
  refine g_is h.1 h'.1 (by omega) b5 (by omega) h.2.1 ?_
  have h1 := h.2.2
  have h2 := h'.2.2
  grind
theorem Val.times {t l s m N N' D D' : Int} (h : Val t l N D) (h' : Val s m N' D') :
    gOk (both t l s m) (t * s) (l * m) = qO (N * N') (D * D') ∧ (qO (N * N') (D * D') = true → gT (both t l s m) (t * s) (l * m) = T (N * N') (D * D') ∧ gL (both t l s m) (t * s) (l * m) = L (N * N') (D * D')) ∧ (qO (N * N') (D * D') = false → gT (both t l s m) (t * s) (l * m) = 0 ∧ gL (both t l s m) (t * s) (l * m) = 0) := by
  obtain ⟨b1, b2, b3, b4, b5⟩ := bd2 h.1 h'.1
  refine g_is h.1 h'.1 (by omega) b5 (by omega) (Int.mul_ne_zero h.2.1 h'.2.1) ?_
  have h1 := h.2.2
  have h2 := h'.2.2
  grind
theorem of_is {N D : Int} (hN : -4000000000000000000 ≤ N ∧ N ≤ 4000000000000000000) (hD : D ≠ 0) (hD' : -4000000000000000000 ≤ D ∧ D ≤ 4000000000000000000) : rOk N D = qO N D ∧ (qO N D = true → rT N D = T N D ∧ rL N D = L N D) := by
  have hr : rOk N D = qO N D := rOk_in hN.1 hN.2 hD'.1 hD'.2 hD
  exact ⟨hr, fun h => ⟨rT_ok (by rw [hr]; exact h), rL_ok (by rw [hr]; exact h)⟩⟩
/-- the value of a sum whose parts are not known to be over one number -/
theorem zero_val {t l D : Int} (h : Val t l 0 D) : t = 0 ∧ l = 1 := by
  have := T_zero h.2.1
  rw [h.TL.1, h.TL.2] at this
  exact this
theorem val_zero {t l N D : Int} (h : Val t l N D) (h0 : t = 0) : N = 0 := by
  have h1 := h.2.2
  obtain ⟨a1, -⟩ := qv_true h.1
  rw [h0, Int.zero_mul] at h1
  rcases Int.mul_eq_zero.1 h1.symm with e | e
  · exact e
  · omega
end Quo
