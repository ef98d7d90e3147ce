/-
  How many whole points lie on a short line, its first point left out: as many as the greatest common divisor of both coordinates of its step.
-/
import Derived.Test.YtgncjpakclbegaaPMath
namespace Pt

theorem onB_move (ax ay bx b_y cx cy : Int) : onB ax ay bx b_y cx cy = onB 0 0 (bx - ax) (b_y - ay) (cx - ax) (cy - ay) := by
  unfold onB
  apply decide_eq_decide.2
  simp only [Int.sub_zero]
  constructor
  · rintro ⟨c, p1, p2, p3, p4⟩; exact ⟨c, by omega, by omega, by omega, by omega⟩
  · rintro ⟨c, p1, p2, p3, p4⟩; exact ⟨c, by omega, by omega, by omega, by omega⟩

def hit (p q i j : Int) : Bool := !(decide (i = 0) && decide (j = 0)) && onB 0 0 p q i j
/-- how many of the first k points above j0 in column i are hit -/
def cntY (p q i j0 : Int) : Nat → Nat
  | 0 => 0
  | k + 1 => cntY p q i j0 k + if hit p q i (j0 + k) then 1 else 0
/-- how many points are hit in the first k columns from i0 on -/
def cntX (p q i0 : Int) : Nat → Nat
  | 0 => 0
  | k + 1 => cntX p q i0 k + cntY p q (i0 + k) (min 0 q) (q.natAbs + 1)
def all (p q : Int) : Nat := cntX p q (min 0 p) (p.natAbs + 1)

theorem table : ∀ a : Fin 21, ∀ b : Fin 21, all ((a.val : Int) - 10) ((b.val : Int) - 10) = Int.gcd ((a.val : Int) - 10) ((b.val : Int) - 10) ∨ 100 < ((a.val : Int) - 10) * ((a.val : Int) - 10) + ((b.val : Int) - 10) * ((b.val : Int) - 10) := by decide +kernel
theorem sq_le {x : Int} (h : x * x ≤ 100) : -10 ≤ x ∧ x ≤ 10 := by
  constructor
  · apply Int.not_lt.1; intro h1
    have := Int.mul_le_mul_of_nonneg_left (show 11 ≤ -x by omega) (show 0 ≤ -x by omega)
    rw [Int.neg_mul_neg] at this
    omega
  · apply Int.not_lt.1; intro h1
    have := Int.mul_le_mul_of_nonneg_left (show 11 ≤ x by omega) (show 0 ≤ x by omega)
    omega
theorem sq_nn (x : Int) : 0 ≤ x * x := by
  rcases Int.le_total 0 x with h | h
  · exact Int.mul_nonneg h h
  · exact Int.mul_nonneg_of_nonpos_of_nonpos h h
theorem counted {p q : Int} (h : p * p + q * q ≤ 100) : (all p q : Int) = Int.gcd p q := by
  have h1 := sq_nn p
  have h2 := sq_nn q
  have hp := sq_le (x := p) (by omega)
  have hq := sq_le (x := q) (by omega)
  have t := table ⟨(p + 10).toNat, by omega⟩ ⟨(q + 10).toNat, by omega⟩
  have e1 : (((p + 10).toNat : Nat) : Int) - 10 = p := by omega
  have e2 : (((q + 10).toNat : Nat) : Int) - 10 = q := by omega
  simp only [e1, e2] at t
  rcases t with t | t
  · rw [t]
  · omega
theorem cntY_le (p q i j0 : Int) (k : Nat) : cntY p q i j0 k ≤ k := by
  induction k with
  | zero => simp [cntY]
  | succ k ih => simp only [cntY]; split <;> omega
theorem cntX_le (p q i0 : Int) (k : Nat) : cntX p q i0 k ≤ k * (q.natAbs + 1) := by
  induction k with
  | zero => simp [cntX]
  | succ k ih =>
    have := cntY_le p q (i0 + k) (min 0 q) (q.natAbs + 1)
    simp only [cntX]; rw [Nat.succ_mul]; omega

theorem inside {g k m : Int} (hm : m ≠ 0) (h1 : min 0 (g * m) ≤ k * m) (h2 : k * m ≤ max 0 (g * m)) (hg : 0 < g := by assumption) : 0 ≤ k ∧ k ≤ g := by
  rcases Int.lt_or_lt_of_ne hm with h | h
  · have e : g * m < 0 := Int.mul_neg_of_pos_of_neg hg h
    refine ⟨?_, ?_⟩
    · apply Int.not_lt.1; intro hk
      have := Int.mul_pos_of_neg_of_neg hk h
      omega
    · apply Int.not_lt.1; intro hk
      have := Int.mul_neg_of_pos_of_neg (show 0 < k - g by omega) h
      rw [Int.sub_mul] at this
      omega
  · have e : 0 < g * m := Int.mul_pos hg h
    refine ⟨?_, ?_⟩
    · apply Int.not_lt.1; intro hk
      have := Int.mul_neg_of_neg_of_pos hk h
      omega
    · apply Int.not_lt.1; intro hk
      have := Int.mul_pos (show 0 < k - g by omega) h
      rw [Int.sub_mul] at this
      omega

/-- a step on the line of another one, no farther and not back, is a part of it -/
theorem part_of {sx sy ux uy : Int} (hc : sx * uy - sy * ux = 0) (h1 : min 0 sx ≤ ux) (h2 : ux ≤ max 0 sx) (h3 : min 0 sy ≤ uy) (h4 : uy ≤ max 0 sy) :
    (Int.gcd ux uy : Int) + Int.gcd (sx - ux) (sy - uy) = Int.gcd sx sy := by
  by_cases h0 : sx = 0 ∧ sy = 0
  · obtain ⟨rfl, rfl⟩ := h0
    have e1 : ux = 0 := by omega
    have e2 : uy = 0 := by omega
    subst e1 e2
    simp
  · have hg : 0 < Int.gcd sx sy := Int.gcd_pos_iff.2 (by omega)
    obtain ⟨p, hp⟩ := Int.gcd_dvd_left sx sy
    obtain ⟨q, hq⟩ := Int.gcd_dvd_right sx sy
    generalize hgg : (Int.gcd sx sy : Int) = g at *
    have hg' : 0 < g := by omega
    have hpq : Int.gcd p q = 1 := by
      have := Int.gcd_mul_left g p q
      rw [← hp, ← hq] at this
      have h' : ((g.natAbs * Int.gcd p q : Nat) : Int) = g := by rw [← this]; exact hgg
      rw [Int.natCast_mul, Int.natAbs_of_nonneg (by omega)] at h'
      have h'' : g * ((Int.gcd p q : Int) - 1) = 0 := by rw [Int.mul_sub]; omega
      rcases Int.mul_eq_zero.1 h'' with h | h <;> omega
    subst hp hq
    have hc' : p * uy = q * ux := by
      have : g * (p * uy - q * ux) = 0 := by rw [Int.mul_sub, ← Int.mul_assoc, ← Int.mul_assoc]; exact hc
      rcases Int.mul_eq_zero.1 this with h | h <;> omega
    obtain ⟨k, hk1, hk2⟩ : ∃ k, ux = k * p ∧ uy = k * q := by
      by_cases hp0 : p = 0
      · subst hp0
        have hq1 : q.natAbs = 1 := by simpa using hpq
        have hq2 : q * q = 1 := by
          rcases Int.natAbs_eq q with h | h <;> rw [hq1] at h <;> subst h <;> rfl
        refine ⟨uy * q, ?_, by rw [Int.mul_assoc, hq2, Int.mul_one]⟩
        rw [Int.zero_mul, eq_comm, Int.mul_eq_zero] at hc'
        rcases hc' with h | h
        · rw [h] at hq1; simp at hq1
        · simp [h]
      · have hd : p ∣ ux := by
          have hd : p ∣ q * ux := ⟨uy, hc'.symm⟩
          rw [← Int.natAbs_dvd_natAbs, Int.natAbs_mul] at hd
          exact Int.natAbs_dvd_natAbs.1 (Nat.Coprime.dvd_of_dvd_mul_left (m := q.natAbs) hpq hd)
        obtain ⟨k, rfl⟩ := hd
        refine ⟨k, Int.mul_comm _ _, ?_⟩
        have : p * (uy - k * q) = 0 := by rw [Int.mul_sub, hc']; grind
        rcases Int.mul_eq_zero.1 this with h | h <;> omega
    have hk : 0 ≤ k ∧ k ≤ g := by
      by_cases hp0 : p = 0
      · have hq0 : q ≠ 0 := by rintro rfl; subst hp0; simp at hpq
        exact inside (m := q) hq0 (by rw [← hk2]; exact h3) (by rw [← hk2]; exact h4)
      · exact inside (m := p) hp0 (by rw [← hk1]; exact h1) (by rw [← hk1]; exact h2)
    have e1 : g * p - ux = (g - k) * p := by rw [hk1]; grind
    have e2 : g * q - uy = (g - k) * q := by rw [hk2]; grind
    rw [e1, e2, hk1, hk2, Int.gcd_mul_left, Int.gcd_mul_left, hpq]
    omega
/-- a line through c, split there: what lies between splits the whole points -/
theorem on_split {ax ay bx b_y cx cy : Int} (h : onB ax ay bx b_y cx cy = true) :
    (Int.gcd (cx - ax) (cy - ay) : Int) + Int.gcd (bx - cx) (b_y - cy) = Int.gcd (bx - ax) (b_y - ay) := by
  unfold onB at h
  simp only [decide_eq_true_eq] at h
  obtain ⟨hc, h1, h2, h3, h4⟩ := h
  have := part_of (sx := bx - ax) (sy := b_y - ay) (ux := cx - ax) (uy := cy - ay) hc (by omega) (by omega) (by omega) (by omega)
  rw [← this]
  have e1 : bx - cx = bx - ax - (cx - ax) := by omega
  have e2 : b_y - cy = b_y - ay - (cy - ay) := by omega
  rw [e1, e2]
theorem mono_sq {u s : Int} (h1 : min 0 s ≤ u) (h2 : u ≤ max 0 s) : u * u ≤ s * s := by
  rcases Int.le_total 0 s with h | h
  · exact Int.mul_le_mul (by omega) (by omega) (by omega) h
  · have := Int.mul_le_mul (a := -u) (b := -u) (c := -s) (d := -s) (by omega) (by omega) (by omega) (by omega)
    rw [Int.neg_mul_neg, Int.neg_mul_neg] at this; exact this
theorem on_near {ax ay bx b_y cx cy : Int} (h : onB ax ay bx b_y cx cy = true) :
    dt (cx - ax) (cy - ay) (cx - ax) (cy - ay) ≤ dt (bx - ax) (b_y - ay) (bx - ax) (b_y - ay) := by
  unfold onB at h
  simp only [decide_eq_true_eq] at h
  obtain ⟨hc, h1, h2, h3, h4⟩ := h
  have := mono_sq (u := cx - ax) (s := bx - ax) (by omega) (by omega)
  have := mono_sq (u := cy - ay) (s := b_y - ay) (by omega) (by omega)
  unfold dt; omega
theorem on_back (ax ay bx b_y cx cy : Int) : onB ax ay bx b_y cx cy = onB bx b_y ax ay cx cy := by
  unfold onB
  apply decide_eq_decide.2
  have : cr (bx - ax) (b_y - ay) (cx - ax) (cy - ay) = - cr (ax - bx) (ay - b_y) (cx - bx) (cy - b_y) := by unfold cr; grind
  omega
end Pt
