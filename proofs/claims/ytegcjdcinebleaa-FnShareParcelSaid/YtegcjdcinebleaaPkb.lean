/-
  The shares of two parts of a parcel: quotients whose sum is 1. No function of the program is named.
-/
import Derived.Test.YtegcjdcinebleaaQz
namespace Quo

theorem gcd_part {a b c : Int} (h : a + b = c) : Int.gcd b c = Int.gcd a c := by
  have e1 : Int.gcd b c = Int.gcd b a := by rw [← h]; have := Int.gcd_add_mul_left_right b a 1; rwa [Int.mul_one] at this
  have e2 : Int.gcd a c = Int.gcd a b := by rw [← h, Int.add_comm]; have := Int.gcd_add_mul_left_right a b 1; rwa [Int.mul_one] at this
  rw [e1, e2, Int.gcd_comm]
theorem one_self {n : Int} (h : 0 < n) (h' : n ≤ 4000000000000000000) : rT n n = 1 ∧ rL n n = 1 ∧ rOk n n = true := by
  have hg : (Int.gcd n n : Int) = n := by rw [Int.gcd_self]; omega
  have hT : T n n = 1 := by rw [T_pos h, hg, Int.tdiv_self (by omega)]
  have hL : L n n = 1 := by rw [L_pos h, hg, Int.ediv_self (by omega)]
  have hok : rOk n n = true := by
    rw [rOk_in (by omega) h' (by omega) h' (by omega), hT, hL]
    decide
  exact ⟨by rw [rT_ok hok, hT], by rw [rL_ok hok, hL], hok⟩
theorem share_sum {a b c : Int} (ha : 0 < a) (hb : 0 < b) (hc : a + b = c) (hcB : c ≤ 4000000000) (hok : rOk a c = true) :
    ∃ l t s : Int, rT a c = t ∧ rL a c = l ∧ (rT b c = s ∧ rL b c = l ∧ rOk b c = true) ∧ (0 < t ∧ t < l ∧ l ≤ 1000000000) ∧
      gT (both t l s l) (t * l + s * l) (l * l) = 1 ∧ gL (both t l s l) (t * l + s * l) (l * l) = 1 ∧ gOk (both t l s l) (t * l + s * l) (l * l) = true := by
  have hcp : 0 < c := by omega
  have hg := gcd_pos a c (by omega)
  have hg2 := gcd_part hc
  obtain ⟨t, ht⟩ := Int.gcd_dvd_left a c
  obtain ⟨l, hl⟩ := Int.gcd_dvd_right a c
  generalize hgg : (Int.gcd a c : Int) = g at *
  have hgb : (Int.gcd b c : Int) = g := by rw [hg2]; exact hgg
  have hTa : T a c = t := by rw [T_pos hcp, hgg, ht, Int.mul_tdiv_cancel_left _ (by omega)]
  have hLc : L a c = l := by rw [L_pos hcp, hgg, hl, Int.mul_ediv_cancel_left _ (by omega)]
  have hbe : b = g * (l - t) := by rw [Int.mul_sub]; omega
  have hTb : T b c = l - t := by rw [T_pos hcp, hgb, hbe, Int.mul_tdiv_cancel_left _ (by omega)]
  have hLb : L b c = l := by rw [L_pos hcp, hgb, hl, Int.mul_ediv_cancel_left _ (by omega)]
  have hq : qv t l = true := by
    rw [rOk_in (by omega) (by omega) (by omega) (by omega) (by omega), hTa, hLc] at hok
    exact hok
  obtain ⟨q1, q2, q3, q4, q5⟩ := qv_true hq
  have ht0 : 0 < t := by
    rcases Int.lt_or_le 0 t with h | h
    · exact h
    · have := Int.mul_nonpos_of_nonneg_of_nonpos (Int.le_of_lt hg) h; omega
  have hs0 : 0 < l - t := by
    rcases Int.lt_or_le 0 (l - t) with h | h
    · exact h
    · have := Int.mul_nonpos_of_nonneg_of_nonpos (Int.le_of_lt hg) h; omega
  have hqs : qv (l - t) l = true := by
    rw [qv_in q1 q2 (by omega) (by omega), gcd_part (a := t) (b := l - t) (c := l) (by omega), q5]
    rfl
  have hokb : rOk b c = true := by rw [rOk_in (by omega) (by omega) (by omega) (by omega) (by omega), hTb, hLb]; exact hqs
  have hbo : both t l (l - t) l = true := by unfold both; rw [hq, hqs]; rfl
  have hll := mul_bd (a := l) (b := l) (by omega) q2 (by omega) q2
  have hlp : 0 < l * l := Int.mul_pos (by omega) (by omega)
  obtain ⟨o1, o2, o3⟩ := one_self hlp (by omega)
  have he : t * l + (l - t) * l = l * l := by grind
  refine ⟨l, t, l - t, by rw [rT_ok hok, hTa], by rw [rL_ok hok, hLc], ⟨by rw [rT_ok hokb, hTb], by rw [rL_ok hokb, hLb], hokb⟩, ⟨ht0, by omega, q2⟩, ?_, ?_, ?_⟩
  · unfold gT; rw [hbo, he]; simp [o1]
  · unfold gL; rw [hbo, he]; simp [o2]
  · unfold gOk; rw [hbo, he]; simp [o3]
end Quo
