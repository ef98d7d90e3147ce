/-
  The order of bearings, with no Go in sight: it is an order, and what is ahead within one quarter or the next lies to the left.
-/
import Derived.Test.YtigmhhdbldlgaaaBMath
namespace Pt

theorem qt_bd (x y : Int) : 0 ≤ qt x y ∧ qt x y ≤ 3 := by unfold qt; split <;> (try split) <;> (try split) <;> omega
/-- what a quarter says of a bearing -/
theorem qt_says {x y : Int} (h : ¬ (x = 0 ∧ y = 0)) : (qt x y = 0 ∧ 0 ≤ x ∧ 0 < y) ∨ (qt x y = 1 ∧ 0 < x ∧ y ≤ 0) ∨ (qt x y = 2 ∧ x ≤ 0 ∧ y < 0) ∨ (qt x y = 3 ∧ x < 0 ∧ 0 ≤ y) := by
  unfold qt
  split
  · left; omega
  · split
    · right; left; omega
    · split
      · right; right; left; omega
      · right; right; right; omega
theorem les_true {a b c d : Int} (h : les a b c d = true) : br a b = true ∧ br c d = true ∧ (qt a b < qt c d ∨ (qt a b = qt c d ∧ cr a b c d < 0)) := by
  unfold les at h
  rw [Bool.and_eq_true, Bool.and_eq_true] at h
  refine ⟨h.1.1, h.1.2, ?_⟩
  have h2 := h.2
  split at h2
  · right; exact ⟨by assumption, by simpa using h2⟩
  · left; simpa using h2
theorem les_mk {a b c d : Int} (h1 : br a b = true) (h2 : br c d = true) (h : qt a b < qt c d ∨ (qt a b = qt c d ∧ cr a b c d < 0)) : les a b c d = true := by
  rcases h with h | ⟨h, h'⟩
  · rw [les_far h1 h2 (by omega)]; simpa using h
  · rw [les_near h1 h2 h]; simpa using h'
theorem cr_swap (a b c d : Int) : cr c d a b = -cr a b c d := by unfold cr; grind
theorem les_back {a b c d : Int} (h : les a b c d = true) : les c d a b = false := by
  rw [Bool.eq_false_iff]
  intro h'
  have h1 := (les_true h).2.2
  have h2 := (les_true h').2.2
  have := cr_swap a b c d
  omega
theorem mulnn {a b : Int} (h : 0 ≤ a) (h' : 0 ≤ b) : 0 ≤ a * b := Int.mul_nonneg h h'
theorem mulnp {a b : Int} (h : 0 ≤ a) (h' : b ≤ 0) : a * b ≤ 0 := Int.mul_nonpos_of_nonneg_of_nonpos h h'
theorem mulpn {a b : Int} (h : a ≤ 0) (h' : 0 ≤ b) : a * b ≤ 0 := Int.mul_nonpos_of_nonpos_of_nonneg h h'
theorem mulpp {a b : Int} (h : a ≤ 0) (h' : b ≤ 0) : 0 ≤ a * b := Int.mul_nonneg_of_nonpos_of_nonpos h h'
/-- three steps of one quarter -/
theorem no_three {a b c d u v : Int} (h : cr a b c d < 0) (h1 : 0 ≤ cr a b u v) (h2 : 0 ≤ cr u v c d)
    (hq : (0 < b ∧ 0 < d ∧ 0 < v) ∨ (0 < a ∧ 0 < c ∧ 0 < u) ∨ (b < 0 ∧ d < 0 ∧ v < 0) ∨ (a < 0 ∧ c < 0 ∧ u < 0)) : False := by
  have ex : cr a b c d * u = cr u v c d * a + cr a b u v * c := by unfold cr; grind
  have ey : cr a b c d * v = cr u v c d * b + cr a b u v * d := by unfold cr; grind
  rcases hq with ⟨p, q, r⟩ | ⟨p, q, r⟩ | ⟨p, q, r⟩ | ⟨p, q, r⟩
  · have := Int.mul_neg_of_neg_of_pos h r
    have := mulnn h2 (Int.le_of_lt p)
    have := mulnn h1 (Int.le_of_lt q)
    omega
  · have := Int.mul_neg_of_neg_of_pos h r
    have := mulnn h2 (Int.le_of_lt p)
    have := mulnn h1 (Int.le_of_lt q)
    omega
  · have := Int.mul_pos_of_neg_of_neg h r
    have := mulnp h2 (Int.le_of_lt p)
    have := mulnp h1 (Int.le_of_lt q)
    omega
  · have := Int.mul_pos_of_neg_of_neg h r
    have := mulnp h2 (Int.le_of_lt p)
    have := mulnp h1 (Int.le_of_lt q)
    omega
/-- a third bearing is behind the first or ahead of the second -/
theorem les_or {a b c d u v : Int} (h : les a b c d = true) (hu : br u v = true) : les a b u v = true ∨ les u v c d = true := by
  obtain ⟨h1, h2, h3⟩ := les_true h
  by_cases g1 : les a b u v = true
  · exact .inl g1
  · by_cases g2 : les u v c d = true
    · exact .inr g2
    · exfalso
      have k1 : ¬ (qt a b < qt u v ∨ (qt a b = qt u v ∧ cr a b u v < 0)) := fun k => g1 (les_mk h1 hu k)
      have k2 : ¬ (qt u v < qt c d ∨ (qt u v = qt c d ∧ cr u v c d < 0)) := fun k => g2 (les_mk hu h2 k)
      have q1 := qt_says (br_nz h1)
      have q2 := qt_says (br_nz h2)
      have q3 := qt_says (br_nz hu)
      exact no_three (a := a) (b := b) (c := c) (d := d) (u := u) (v := v) (by omega) (by omega) (by omega) (by omega)
/-- what is ahead within one quarter or the next lies to the left -/
theorem les_left {a b c d : Int} (h : les a b c d = true) (hq : qt c d ≤ qt a b + 1) : 0 < cr c d a b := by
  obtain ⟨h1, h2, h3⟩ := les_true h
  rw [cr_swap]
  rcases h3 with h3 | ⟨_, h3⟩
  · have q1 := qt_says (br_nz h1)
    have q2 := qt_says (br_nz h2)
    unfold cr
    rcases q1 with ⟨e1, p1, p2⟩ | ⟨e1, p1, p2⟩ | ⟨e1, p1, p2⟩ | ⟨e1, p1, p2⟩
    · obtain ⟨r1, r2⟩ : 0 < c ∧ d ≤ 0 := by omega
      have := mulnp p1 r2
      have := Int.mul_pos p2 r1
      omega
    · obtain ⟨r1, r2⟩ : c ≤ 0 ∧ d < 0 := by omega
      have := Int.mul_neg_of_pos_of_neg p1 r2
      have := mulpp p2 r1
      omega
    · obtain ⟨r1, r2⟩ : c < 0 ∧ 0 ≤ d := by omega
      have := mulpn p1 r2
      have := Int.mul_pos_of_neg_of_neg p2 r1
      omega
    · omega
  · omega
theorem les_qt {a b c d : Int} (h : les a b c d = true) : qt a b ≤ qt c d := by
  have := (les_true h).2.2; omega
/-- what BearingOf answers is a bearing -/
theorem of_br {x y : Int} (h : ofB x y = true) : br (ofX x y) (ofY x y) = true := by
  obtain ⟨h1, h2⟩ := ofB_true h
  have hp := gcd_pos h2
  have hpos : 0 < Int.gcd x y := by omega
  obtain ⟨s1, s2, s3, s4⟩ := sv_true h1
  unfold ofX ofY
  rw [h]
  simp only [if_true]
  obtain ⟨m, hm⟩ := Int.gcd_dvd_left x y
  obtain ⟨n, hn⟩ := Int.gcd_dvd_right x y
  generalize hg : (Int.gcd x y : Int) = g at *
  have ex : x.tdiv g = m := by rw [hm]; exact Int.mul_tdiv_cancel_left _ (by omega)
  have ey : y.tdiv g = n := by rw [hn]; exact Int.mul_tdiv_cancel_left _ (by omega)
  rw [ex, ey]
  have hco : Int.gcd m n = 1 := by
    have h3 : Int.gcd x y = g.natAbs * Int.gcd m n := by
      conv => lhs; rw [hm, hn]
      rw [Int.gcd_mul_left]
    have h4 : g.natAbs = Int.gcd x y := by omega
    rw [h4] at h3
    have : Int.gcd x y * 1 = Int.gcd x y * Int.gcd m n := by omega
    exact (Nat.eq_of_mul_eq_mul_left hpos this).symm
  have b1 : m.natAbs ≤ x.natAbs := by rw [hm, Int.natAbs_mul]; exact Nat.le_mul_of_pos_left _ (by omega)
  have b2 : n.natAbs ≤ y.natAbs := by rw [hn, Int.natAbs_mul]; exact Nat.le_mul_of_pos_left _ (by omega)
  exact br_mk (sv_in (by omega) (by omega) (by omega) (by omega)) hco
end Pt
