/-
  Plain facts on points, with no Go in sight: validity, steps, cross and dot products, what lies between, and how many whole points lie on a line.
-/
import Derived.Test.YtgncjpakclbegaaQz
namespace Pt

def pv (x y : Int) : Bool := decide (-10000 ≤ x ∧ x ≤ 10000 ∧ -10000 ≤ y ∧ y ≤ 10000)
def sv (x y : Int) : Bool := decide (-20000 ≤ x ∧ x ≤ 20000 ∧ -20000 ≤ y ∧ y ≤ 20000)
theorem pv_true {x y : Int} (h : pv x y = true) : -10000 ≤ x ∧ x ≤ 10000 ∧ -10000 ≤ y ∧ y ≤ 10000 := by unfold pv at h; simpa using h
theorem sv_true {x y : Int} (h : sv x y = true) : -20000 ≤ x ∧ x ≤ 20000 ∧ -20000 ≤ y ∧ y ≤ 20000 := by unfold sv at h; simpa using h
theorem pv_in {x y : Int} (h1 : -10000 ≤ x) (h2 : x ≤ 10000) (h3 : -10000 ≤ y) (h4 : y ≤ 10000) : pv x y = true := by unfold pv; simp [*]
theorem pv_out {x y : Int} (h : x < -10000 ∨ 10000 < x ∨ y < -10000 ∨ 10000 < y) : pv x y = false := by unfold pv; simp; omega
theorem sv_in {x y : Int} (h1 : -20000 ≤ x) (h2 : x ≤ 20000) (h3 : -20000 ≤ y) (h4 : y ≤ 20000) : sv x y = true := by unfold sv; simp [*]
theorem sv_out {x y : Int} (h : x < -20000 ∨ 20000 < x ∨ y < -20000 ∨ 20000 < y) : sv x y = false := by unfold sv; simp; omega
theorem sv_of {a b c d : Int} (h : pv a b = true) (h' : pv c d = true) : sv (c - a) (d - b) = true := by
  have h1 := pv_true h; have h2 := pv_true h'; exact sv_in (by omega) (by omega) (by omega) (by omega)

/-- the cross product of two steps, the dot product, and whether c lies between a and b -/
def cr (a b c d : Int) : Int := a * d - b * c
def dt (a b c d : Int) : Int := a * c + b * d
def onB (ax ay bx b_y cx cy : Int) : Bool := decide (cr (bx - ax) (b_y - ay) (cx - ax) (cy - ay) = 0 ∧ min ax bx ≤ cx ∧ cx ≤ max ax bx ∧ min ay b_y ≤ cy ∧ cy ≤ max ay b_y)

/-- the product of two numbers within bounds -/
theorem mul_bd {a b m n : Int} (ha : -m ≤ a) (ha' : a ≤ m) (hb : -n ≤ b) (hb' : b ≤ n) : -(m * n) ≤ a * b ∧ a * b ≤ m * n := by
  have h : (a * b).natAbs ≤ m.natAbs * n.natAbs := by rw [Int.natAbs_mul]; exact Nat.mul_le_mul (by omega) (by omega)
  have h2 : ((m.natAbs * n.natAbs : Nat) : Int) = m * n := by
    rw [Int.natCast_mul, Int.natAbs_of_nonneg (by omega), Int.natAbs_of_nonneg (by omega)]
  omega
theorem cr_bd {a b c d : Int} (h : sv a b = true) (h' : sv c d = true) : -800000000 ≤ cr a b c d ∧ cr a b c d ≤ 800000000 := by
  have h1 := sv_true h; have h2 := sv_true h'; unfold cr
  have := mul_bd h1.1 h1.2.1 h2.2.2.1 h2.2.2.2
  have := mul_bd h1.2.2.1 h1.2.2.2 h2.1 h2.2.1
  omega
theorem dt_bd {a b c d : Int} (h : sv a b = true) (h' : sv c d = true) : -800000000 ≤ dt a b c d ∧ dt a b c d ≤ 800000000 := by
  have h1 := sv_true h; have h2 := sv_true h'; unfold dt
  have := mul_bd h1.1 h1.2.1 h2.1 h2.2.1
  have := mul_bd h1.2.2.1 h1.2.2.2 h2.2.2.1 h2.2.2.2
  omega

theorem pos_mul {a b : Int} (h : 0 < a * b) : (0 < a ∧ 0 < b) ∨ (a < 0 ∧ b < 0) := by
  rcases Int.lt_trichotomy a 0 with h1 | h1 | h1
  · right; refine ⟨h1, ?_⟩
    rcases Int.lt_trichotomy b 0 with h2 | h2 | h2
    · exact h2
    · subst h2; simp at h
    · have := Int.mul_neg_of_neg_of_pos h1 h2; omega
  · subst h1; simp at h
  · left; refine ⟨h1, ?_⟩
    rcases Int.lt_trichotomy b 0 with h2 | h2 | h2
    · have := Int.mul_neg_of_pos_of_neg h1 h2; omega
    · subst h2; simp at h
    · exact h2
theorem sgn_mul (a b : Int) : (0 < a * b ↔ (0 < a ∧ 0 < b) ∨ (a < 0 ∧ b < 0)) := by
  refine ⟨pos_mul, ?_⟩
  rintro (⟨h1, h2⟩ | ⟨h1, h2⟩)
  · exact Int.mul_pos h1 h2
  · exact Int.mul_pos_of_neg_of_neg h1 h2
theorem sgn_mul' (a b : Int) : (a * b < 0 ↔ (0 < a ∧ b < 0) ∨ (a < 0 ∧ 0 < b)) := by
  have := sgn_mul a (-b)
  rw [Int.mul_neg] at this
  constructor
  · intro h; have := this.1 (by omega); omega
  · intro h; have := this.2 (by omega); omega
theorem nn_mul (a b : Int) : (a * b ≤ 0 ↔ (0 ≤ a ∧ b ≤ 0) ∨ (a ≤ 0 ∧ 0 ≤ b)) := by
  have := sgn_mul a b
  constructor
  · intro h
    have h' : ¬ 0 < a * b := by omega
    rw [this] at h'; omega
  · intro h
    have h' : ¬ 0 < a * b := by rw [this]; omega
    omega

theorem between (a b c : Int) : (min a b ≤ c ∧ c ≤ max a b) ↔ (a - c) * (b - c) ≤ 0 := by
  rw [nn_mul]; omega

/-- two steps on one line: both to the other side just where their product is negative or one is none -/
theorem opposite {p q r s : Int} (hc : p * s - q * r = 0) (h1 : ¬ (p = 0 ∧ q = 0)) (h2 : ¬ (r = 0 ∧ s = 0)) : (p * r ≤ 0 ∧ q * s ≤ 0) ↔ p * r + q * s < 0 := by
  have hps : p * s = q * r := by omega
  have key : (p * r) * (q * s) = (q * r) * (q * r) := by
    calc (p * r) * (q * s) = (p * s) * (q * r) := by grind
      _ = _ := by rw [hps]
  have hsq : 0 ≤ (q * r) * (q * r) := by
    rcases Int.le_total 0 (q * r) with h | h
    · exact Int.mul_nonneg h h
    · exact Int.mul_nonneg_of_nonpos_of_nonpos h h
  constructor
  · rintro ⟨a, b⟩
    rcases Int.lt_or_eq_of_le (show p * r + q * s ≤ 0 by omega) with h | h
    · exact h
    · exfalso
      have e1 : p * r = 0 := by omega
      have e2 : q * s = 0 := by omega
      rw [e1, Int.zero_mul] at key
      have e3 : q * r = 0 := by
        rcases Int.mul_eq_zero.1 key.symm with h | h <;> exact h
      have e4 : p * s = 0 := by omega
      simp [Int.mul_eq_zero] at e1 e2 e3 e4
      omega
  · intro h
    constructor
    · rcases Int.lt_or_le 0 (p * r) with h3 | h3
      · have := Int.mul_neg_of_pos_of_neg h3 (show q * s < 0 by omega); omega
      · exact h3
    · rcases Int.lt_or_le 0 (q * s) with h3 | h3
      · have := Int.mul_neg_of_neg_of_pos (show p * r < 0 by omega) h3; omega
      · exact h3

/-- what the program asks of a third point that is no end: the steps from it to both ends are opposite -/
theorem onB_opp {ax ay bx b_y cx cy : Int} (h1 : ¬ (cx = ax ∧ cy = ay)) (h2 : ¬ (cx = bx ∧ cy = b_y)) :
    onB ax ay bx b_y cx cy = (decide (cr (ax - cx) (ay - cy) (bx - cx) (b_y - cy) = 0) && decide (dt (ax - cx) (ay - cy) (bx - cx) (b_y - cy) < 0)) := by
  have e : cr (bx - ax) (b_y - ay) (cx - ax) (cy - ay) = cr (ax - cx) (ay - cy) (bx - cx) (b_y - cy) := by unfold cr; grind
  unfold onB
  rw [e, ← Bool.decide_and]
  apply decide_eq_decide.2
  constructor
  · rintro ⟨c, p1, p2, p3, p4⟩
    refine ⟨c, ?_⟩
    have q1 := (between ax bx cx).1 ⟨p1, p2⟩
    have q2 := (between ay b_y cy).1 ⟨p3, p4⟩
    exact (opposite (show (ax - cx) * (b_y - cy) - (ay - cy) * (bx - cx) = 0 from c) (by omega) (by omega)).1 ⟨q1, q2⟩
  · rintro ⟨c, d⟩
    have q := (opposite (show (ax - cx) * (b_y - cy) - (ay - cy) * (bx - cx) = 0 from c) (by omega) (by omega)).2 d
    have q1 := (between ax bx cx).2 q.1
    have q2 := (between ay b_y cy).2 q.2
    exact ⟨c, q1.1, q1.2, q2.1, q2.2⟩
theorem onB_left (ax ay bx b_y : Int) : onB ax ay bx b_y ax ay = true := by
  unfold onB cr; simp; omega
theorem onB_right (ax ay bx b_y : Int) : onB ax ay bx b_y bx b_y = true := by
  unfold onB cr
  simp only [decide_eq_true_eq]
  exact ⟨by grind, by omega, by omega, by omega, by omega⟩
end Pt
