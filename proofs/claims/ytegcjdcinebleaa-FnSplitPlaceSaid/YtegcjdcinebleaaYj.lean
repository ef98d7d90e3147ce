/-
  How often a closed way winds around a point, counted at the half line to the east; sides that do not meet. No function of the program is named.
-/
import Derived.Test.YtegcjdcinebleaaYma
namespace Poly

def cv (u v : P2) : Int := u.1 * v.2 - u.2 * v.1
def sb (u v : P2) : P2 := (u.1 - v.1, u.2 - v.2)
/-- the way from u to v crosses the half line from the origin to the east: 1 upwards, -1 downwards -/
def chi (u v : P2) : Int :=
  if u.2 ≤ 0 ∧ 0 < v.2 then (if 0 < cv u v then 1 else 0)
  else if v.2 ≤ 0 ∧ 0 < u.2 then (if cv u v < 0 then -1 else 0) else 0

theorem cv_anti (u v : P2) : cv v u = -cv u v := by unfold cv; grind
theorem chi_anti (u v : P2) : chi v u = -chi u v := by
  unfold chi
  rw [cv_anti u v]
  by_cases h1 : 0 < v.2 <;> by_cases h2 : 0 < u.2 <;> simp [h1, h2, show ¬ (v.2 ≤ 0) ↔ 0 < v.2 by omega, show ¬ (u.2 ≤ 0) ↔ 0 < u.2 by omega] <;> split <;> omega
theorem chi_self (u : P2) : chi u u = 0 := by have := chi_anti u u; omega
/-- three vectors of the plane: one linear relation -/
theorem three_y (a b c : P2) : a.2 * cv b c + b.2 * cv c a + c.2 * cv a b = 0 := by unfold cv; grind
theorem three_x (a b c : P2) : a.1 * cv b c + b.1 * cv c a + c.1 * cv a b = 0 := by unfold cv; grind

/-- all corners' products have one sign -/
def same4 (a b c d : P2) : Prop := ((0 ≤ cv a b ∧ 0 ≤ cv b c ∧ 0 ≤ cv c d ∧ 0 ≤ cv d a) ∨ (cv a b ≤ 0 ∧ cv b c ≤ 0 ∧ cv c d ≤ 0 ∧ cv d a ≤ 0)) ∧ cv a b + cv c d ≠ 0
def chi4 (a b c d : P2) : Int := chi a b + chi b c + chi c d + chi d a
section
variable {a b c d : P2}
theorem para_cv (h1 : a.1 + c.1 = b.1 + d.1) (h2 : a.2 + c.2 = b.2 + d.2) : cv b c = cv b d + cv a b ∧ cv c d = cv b d + cv d a ∧ cv a b + cv c d = cv b c + cv d a := by
  have e1 : c.1 = b.1 + d.1 - a.1 := by omega
  have e2 : c.2 = b.2 + d.2 - a.2 := by omega
  unfold cv
  rw [e1, e2]
  refine ⟨by grind, by grind, by grind⟩
theorem same4_rot (h1 : a.1 + c.1 = b.1 + d.1) (h2 : a.2 + c.2 = b.2 + d.2) (h : same4 b c d a) : same4 a b c d := by
  have := (para_cv h1 h2).2.2
  obtain ⟨h3, h4⟩ := h
  refine ⟨?_, by omega⟩
  rcases h3 with ⟨x, y, z, t⟩ | ⟨x, y, z, t⟩
  · exact .inl ⟨t, x, y, z⟩
  · exact .inr ⟨t, x, y, z⟩
theorem same4_rev (h : same4 d c b a) : same4 a b c d := by
  obtain ⟨h3, h4⟩ := h
  have e1 := cv_anti a b; have e2 := cv_anti b c; have e3 := cv_anti c d; have e4 := cv_anti d a
  refine ⟨?_, by omega⟩
  rcases h3 with ⟨x, y, z, t⟩ | ⟨x, y, z, t⟩
  · exact .inr ⟨by omega, by omega, by omega, by omega⟩
  · exact .inl ⟨by omega, by omega, by omega, by omega⟩
theorem chi4_rot : chi4 b c d a = chi4 a b c d := by unfold chi4; omega
theorem chi4_rev : chi4 d c b a = -chi4 a b c d := by
  unfold chi4
  have e1 := chi_anti a b; have e2 := chi_anti b c; have e3 := chi_anti c d; have e4 := chi_anti d a
  omega
theorem mul_nn {x y : Int} (h1 : 0 ≤ x) (h2 : 0 ≤ y) : 0 ≤ x * y := Int.mul_nonneg h1 h2
theorem mul_np {x y : Int} (h1 : 0 ≤ x) (h2 : y ≤ 0) : x * y ≤ 0 := Int.mul_nonpos_of_nonneg_of_nonpos h1 h2
theorem mul_pn {x y : Int} (h1 : x ≤ 0) (h2 : 0 ≤ y) : x * y ≤ 0 := Int.mul_nonpos_of_nonpos_of_nonneg h1 h2
theorem mul_nnp {x y : Int} (h1 : x ≤ 0) (h2 : y ≤ 0) : 0 ≤ x * y := Int.mul_nonneg_of_nonpos_of_nonpos h1 h2
theorem mul_sp {x y : Int} (h1 : 0 < x) (h2 : 0 < y) : 0 < x * y := Int.mul_pos h1 h2
theorem mul_sn {x y : Int} (h1 : 0 < x) (h2 : y < 0) : x * y < 0 := Int.mul_neg_of_pos_of_neg h1 h2
theorem mul_ns {x y : Int} (h1 : x < 0) (h2 : 0 < y) : x * y < 0 := Int.mul_neg_of_neg_of_pos h1 h2
theorem mul_ss {x y : Int} (h1 : x < 0) (h2 : y < 0) : 0 < x * y := Int.mul_pos_of_neg_of_neg h1 h2
theorem pos_of {x y : Int} (h1 : 0 < x) (h : 0 ≤ x * y) : 0 ≤ y := by
  rcases Int.lt_or_le y 0 with h2 | h2
  · have := mul_sn h1 h2; omega
  · exact h2
theorem spos_of {x y : Int} (h1 : 0 ≤ x) (h : 0 < x * y) : 0 < y := by
  rcases Int.lt_or_le 0 y with h2 | h2
  · exact h2
  · have := mul_np h1 h2; omega

theorem one_up (h1 : a.1 + c.1 = b.1 + d.1) (h2 : a.2 + c.2 = b.2 + d.2) (ua : 0 < a.2) (ub : b.2 ≤ 0) (ud : d.2 ≤ 0) (p : 0 < cv d a) (q : 0 ≤ cv a b) : same4 a b c d := by
  obtain ⟨e1, e2, e3⟩ := para_cv h1 h2
  have hy := three_y a b d
  have m1 := mul_pn ub (show 0 ≤ cv d a by omega)
  have m2 := mul_pn ud q
  have hb : 0 ≤ cv b d := pos_of ua (by omega)
  exact ⟨.inl ⟨q, by omega, by omega, by omega⟩, by omega⟩
theorem one_down (h1 : a.1 + c.1 = b.1 + d.1) (h2 : a.2 + c.2 = b.2 + d.2) (ua : a.2 ≤ 0) (ub : 0 < b.2) (ud : 0 < d.2) (p : 0 < cv a b) (q : 0 ≤ cv d a) : same4 a b c d := by
  obtain ⟨e1, e2, e3⟩ := para_cv h1 h2
  have hy := three_y a b d
  have m1 := mul_nn (show 0 ≤ b.2 by omega) q
  have m2 := mul_sp ud p
  have hb : 0 ≤ cv b d := by
    rcases Int.lt_or_le (cv b d) 0 with h | h
    · have := mul_nnp ua (show cv b d ≤ 0 by omega); omega
    · exact h
  exact ⟨.inl ⟨by omega, by omega, by omega, q⟩, by omega⟩
theorem two_up (h1 : a.1 + c.1 = b.1 + d.1) (h2 : a.2 + c.2 = b.2 + d.2) (ua : 0 < a.2) (ub : 0 < b.2) (uc : c.2 ≤ 0) (ud : d.2 ≤ 0) (p : 0 < cv d a) (q : 0 ≤ cv b c) : same4 a b c d := by
  obtain ⟨e1, e2, e3⟩ := para_cv h1 h2
  obtain ⟨e, he⟩ : ∃ e : P2, e = sb a b := ⟨_, rfl⟩
  have ex : e.1 = a.1 - b.1 := by rw [he]; rfl
  have ey : e.2 = a.2 - b.2 := by rw [he]; rfl
  have k1 : cv e b = cv a b := by unfold cv; rw [ex, ey]; grind
  have k2 : cv c e = cv c d := by
    have : e.1 = d.1 - c.1 := by omega
    have : e.2 = d.2 - c.2 := by omega
    unfold cv; simp only [*]; grind
  have k3 : cv e a = cv a b := by unfold cv; rw [ex, ey]; grind
  have k4 : cv d e = cv c d := by
    have : e.1 = d.1 - c.1 := by omega
    have : e.2 = d.2 - c.2 := by omega
    unfold cv; simp only [*]; grind
  have y1 := three_y b c e
  have y2 := three_y a d e
  rw [k1, k2] at y1
  rw [k3, k4] at y2
  have ad := cv_anti d a
  have ha : 0 ≤ cv a b := by
    rcases Int.lt_or_le (cv a b) 0 with h | h
    · exfalso
      have hc : 0 < cv c d := by omega
      have m1 := mul_sp ub hc
      have m2 := mul_nnp uc (show cv a b ≤ 0 by omega)
      have m3 := mul_sp ua hc
      have m4 := mul_nnp ud (show cv a b ≤ 0 by omega)
      have he2 : e.2 < 0 := by
        rcases Int.lt_or_le e.2 0 with g | g
        · exact g
        · have := mul_nn g q; omega
      have := mul_ss he2 (show cv a d < 0 by omega)
      omega
    · exact h
  have hc : 0 ≤ cv c d := by
    rcases Int.lt_or_le (cv c d) 0 with h | h
    · exfalso
      have hb : 0 < cv a b := by omega
      have m1 := mul_sn ub h
      have m2 := mul_pn uc (show 0 ≤ cv a b by omega)
      have he2 : 0 < e.2 := by
        rcases Int.lt_or_le 0 e.2 with g | g
        · exact g
        · have := mul_pn g q; omega
      have m3 := mul_sn ua h
      have m4 := mul_pn ud (show 0 ≤ cv a b by omega)
      have := mul_sn he2 (show cv a d < 0 by omega)
      omega
    · exact h
  exact ⟨.inl ⟨ha, q, hc, by omega⟩, by omega⟩

theorem chi_ud (hu : 0 < a.2) (hv : b.2 ≤ 0) : chi a b = if cv a b < 0 then -1 else 0 := by unfold chi; rw [if_neg (by omega), if_pos ⟨hv, hu⟩]
theorem chi_du (hu : a.2 ≤ 0) (hv : 0 < b.2) : chi a b = if 0 < cv a b then 1 else 0 := by unfold chi; rw [if_pos ⟨hu, hv⟩]
theorem chi_uu (hu : 0 < a.2) (hv : 0 < b.2) : chi a b = 0 := by unfold chi; rw [if_neg (by omega), if_neg (by omega)]
theorem chi_dd (hu : a.2 ≤ 0) (hv : b.2 ≤ 0) : chi a b = 0 := by unfold chi; rw [if_neg (by omega), if_neg (by omega)]
/-- a parallelogram whose first corner alone is up -/
theorem para_up (h1 : a.1 + c.1 = b.1 + d.1) (h2 : a.2 + c.2 = b.2 + d.2) (ua : 0 < a.2) (ub : b.2 ≤ 0) (uc : c.2 ≤ 0) (ud : d.2 ≤ 0) (h : chi4 a b c d ≠ 0) : same4 a b c d := by
  unfold chi4 at h
  rw [chi_ud ua ub, chi_dd ub uc, chi_dd uc ud, chi_du ud ua] at h
  by_cases p : 0 < cv d a
  · rw [if_pos p] at h
    by_cases q : cv a b < 0
    · rw [if_pos q] at h; omega
    · exact one_up h1 h2 ua ub ud p (by omega)
  · rw [if_neg p] at h
    by_cases q : cv a b < 0
    · have e1 := cv_anti a b; have e4 := cv_anti d a
      refine same4_rev (same4_rot (by omega) (by omega) (same4_rot (by omega) (by omega) (same4_rot (by omega) (by omega) ?_)))
      exact one_up (a := a) (b := d) (c := c) (d := b) (by omega) (by omega) ua ud ub (by omega) (by omega)
    · rw [if_neg q] at h; omega
theorem para_down (h1 : a.1 + c.1 = b.1 + d.1) (h2 : a.2 + c.2 = b.2 + d.2) (ua : a.2 ≤ 0) (ub : 0 < b.2) (uc : 0 < c.2) (ud : 0 < d.2) (h : chi4 a b c d ≠ 0) : same4 a b c d := by
  unfold chi4 at h
  rw [chi_du ua ub, chi_uu ub uc, chi_uu uc ud, chi_ud ud ua] at h
  by_cases p : 0 < cv a b
  · rw [if_pos p] at h
    by_cases q : cv d a < 0
    · rw [if_pos q] at h; omega
    · exact one_down h1 h2 ua ub ud p (by omega)
  · rw [if_neg p] at h
    by_cases q : cv d a < 0
    · have e1 := cv_anti a b; have e4 := cv_anti d a
      refine same4_rev (same4_rot (by omega) (by omega) (same4_rot (by omega) (by omega) (same4_rot (by omega) (by omega) ?_)))
      exact one_down (a := a) (b := d) (c := c) (d := b) (by omega) (by omega) ua ud ub (by omega) (by omega)
    · rw [if_neg q] at h; omega
theorem para_two (h1 : a.1 + c.1 = b.1 + d.1) (h2 : a.2 + c.2 = b.2 + d.2) (ua : 0 < a.2) (ub : 0 < b.2) (uc : c.2 ≤ 0) (ud : d.2 ≤ 0) (h : chi4 a b c d ≠ 0) : same4 a b c d := by
  unfold chi4 at h
  rw [chi_uu ua ub, chi_ud ub uc, chi_dd uc ud, chi_du ud ua] at h
  by_cases p : 0 < cv d a
  · rw [if_pos p] at h
    by_cases q : cv b c < 0
    · rw [if_pos q] at h; omega
    · exact two_up h1 h2 ua ub uc ud p (by omega)
  · rw [if_neg p] at h
    by_cases q : cv b c < 0
    · have e1 := cv_anti b c; have e4 := cv_anti d a
      refine same4_rev (same4_rot (by omega) (by omega) (same4_rot (by omega) (by omega) ?_))
      exact two_up (a := b) (b := a) (c := d) (d := c) (by omega) (by omega) ub ua ud uc (by omega) (by omega)
    · rw [if_neg q] at h; omega
end
/-- a parallelogram that winds around the origin holds it -/
theorem para_holds {a b c d : P2} (h1 : a.1 + c.1 = b.1 + d.1) (h2 : a.2 + c.2 = b.2 + d.2) (h : chi4 a b c d ≠ 0) : same4 a b c d := by
  have r1 : chi4 b c d a ≠ 0 := by rw [chi4_rot]; exact h
  have r2 : chi4 c d a b ≠ 0 := by rw [chi4_rot]; exact r1
  have r3 : chi4 d a b c ≠ 0 := by rw [chi4_rot]; exact r2
  have t1 : same4 b c d a → same4 a b c d := same4_rot h1 h2
  have t2 : same4 c d a b → same4 a b c d := fun k => t1 (same4_rot (by omega) (by omega) k)
  have t3 : same4 d a b c → same4 a b c d := fun k => t2 (same4_rot (by omega) (by omega) k)
  rcases Int.lt_or_le 0 a.2 with ua | ua <;> rcases Int.lt_or_le 0 b.2 with ub | ub <;> rcases Int.lt_or_le 0 c.2 with uc | uc <;> rcases Int.lt_or_le 0 d.2 with ud | ud
  · exfalso; apply h; unfold chi4; rw [chi_uu ua ub, chi_uu ub uc, chi_uu uc ud, chi_uu ud ua]; rfl
  · exact t3 (para_down (by omega) (by omega) ud ua ub uc r3)
  · exact t2 (para_down (by omega) (by omega) uc ud ua ub r2)
  · exact para_two h1 h2 ua ub uc ud h
  · exact t1 (para_down (by omega) (by omega) ub uc ud ua r1)
  · omega
  · exact t3 (para_two (by omega) (by omega) ud ua ub uc r3)
  · exact para_up h1 h2 ua ub uc ud h
  · exact para_down h1 h2 ua ub uc ud h
  · exact t1 (para_two (by omega) (by omega) ub uc ud ua r1)
  · omega
  · exact t1 (para_up (by omega) (by omega) ub uc ud ua r1)
  · exact t2 (para_two (by omega) (by omega) uc ud ua ub r2)
  · exact t2 (para_up (by omega) (by omega) uc ud ua ub r2)
  · exact t3 (para_up (by omega) (by omega) ud ua ub uc r3)
  · exfalso; apply h; unfold chi4; rw [chi_dd ua ub, chi_dd ub uc, chi_dd uc ud, chi_dd ud ua]; rfl

theorem crs_cv (a b p : P2) : crs a b p = cv (sb a p) (sb b p) := by unfold crs cv sb Pt.cr; grind
theorem crs_flip (a b p : P2) : crs b a p = -crs a b p := by unfold crs Pt.cr; grind
/-- a point on the line through two others, on which another line parts these, lies between them -/
theorem on_of {x y c d : P2} (h0 : crs x y c = 0) (h : (0 ≤ crs c d x ∧ crs c d y ≤ 0) ∨ (crs c d x ≤ 0 ∧ 0 ≤ crs c d y)) (hn : crs c d x - crs c d y ≠ 0) : onP x y c = true := by
  have key1 : (y.1 - c.1) * crs c d x = (x.1 - c.1) * crs c d y := by
    have : (y.1 - c.1) * crs c d x - (x.1 - c.1) * crs c d y = (c.1 - d.1) * crs x y c := by unfold crs Pt.cr; grind
    rw [h0, Int.mul_zero] at this; omega
  have key2 : (y.2 - c.2) * crs c d x = (x.2 - c.2) * crs c d y := by
    have : (y.2 - c.2) * crs c d x - (x.2 - c.2) * crs c d y = (c.2 - d.2) * crs x y c := by unfold crs Pt.cr; grind
    rw [h0, Int.mul_zero] at this; omega
  have gen : ∀ {p q o1 o2 : Int}, ((0 ≤ o1 ∧ o2 ≤ 0) ∨ (o1 ≤ 0 ∧ 0 ≤ o2)) → o1 - o2 ≠ 0 → q * o1 = p * o2 → p * q ≤ 0 := by
    intro p q o1 o2 ho hne he
    rw [Pt.nn_mul]
    rcases Int.lt_trichotomy p 0 with hp | hp | hp <;> rcases Int.lt_trichotomy q 0 with hq | hq | hq
    · exfalso
      rcases ho with ⟨h1, h2⟩ | ⟨h1, h2⟩
      · have m1 := mul_pn (show q ≤ 0 by omega) h1
        have m2 := mul_nnp (show p ≤ 0 by omega) h2
        rcases Int.lt_or_eq_of_le h1 with g | g
        · have := mul_ns hq g; omega
        · have := mul_ss hp (show o2 < 0 by omega); omega
      · have m1 := mul_nnp (show q ≤ 0 by omega) h1
        have m2 := mul_pn (show p ≤ 0 by omega) h2
        rcases Int.lt_or_eq_of_le h1 with g | g
        · have := mul_ss hq g; omega
        · have := mul_ns hp (show 0 < o2 by omega); omega
    · omega
    · omega
    · omega
    · omega
    · omega
    · omega
    · omega
    · exfalso
      rcases ho with ⟨h1, h2⟩ | ⟨h1, h2⟩
      · have m1 := mul_nn (show 0 ≤ q by omega) h1
        have m2 := mul_np (show 0 ≤ p by omega) h2
        rcases Int.lt_or_eq_of_le h1 with g | g
        · have := mul_sp hq g; omega
        · have := mul_sn hp (show o2 < 0 by omega); omega
      · have m1 := mul_np (show 0 ≤ q by omega) h1
        have m2 := mul_nn (show 0 ≤ p by omega) h2
        rcases Int.lt_or_eq_of_le h1 with g | g
        · have := mul_sn hq g; omega
        · have := mul_sp hp (show 0 < o2 by omega); omega
  have b1 := (Pt.between x.1 y.1 c.1).2 (gen h hn key1)
  have b2 := (Pt.between x.2 y.2 c.2).2 (gen h hn key2)
  unfold onP Pt.onB
  unfold crs at h0
  exact decide_eq_true ⟨h0, b1.1, b1.2, b2.1, b2.2⟩
theorem sgnP {x : Int} (h : 0 < x) : sgn x = 1 := by unfold sgn; rw [if_neg (by omega), if_pos h]
theorem sgnN {x : Int} (h : x < 0) : sgn x = -1 := by unfold sgn; rw [if_pos h]
theorem sgnZ {x : Int} (h : x = 0) : sgn x = 0 := by unfold sgn; rw [if_neg (by omega), if_neg (by omega)]
theorem parts_of {a b c d : P2} (h : (0 < crs a b c ∧ crs a b d < 0) ∨ (crs a b c < 0 ∧ 0 < crs a b d)) : parts a b c d = true := by
  unfold parts sd
  rcases h with ⟨h1, h2⟩ | ⟨h1, h2⟩
  · rw [sgnP h1, sgnN h2]; rfl
  · rw [sgnN h1, sgnP h2]; rfl
/-- THE CELL: seen from one side's ends, the other side turns as it should, if the two sides do not meet -/
theorem cell {x y c d : P2} (h : meet x y c d = false) : chi4 (sb c x) (sb d x) (sb d y) (sb c y) = 0 := by
  by_cases hz : chi4 (sb c x) (sb d x) (sb d y) (sb c y) = 0
  · exact hz
  · exfalso
    obtain ⟨hs, hn⟩ := para_holds (by unfold sb; dsimp only; omega) (by unfold sb; dsimp only; omega) hz
    have e1 : cv (sb c x) (sb d x) = crs c d x := (crs_cv c d x).symm
    have e2 : cv (sb d x) (sb d y) = crs x y d := by unfold crs cv sb Pt.cr; grind
    have e3 : cv (sb d y) (sb c y) = -crs c d y := by rw [cv_anti, ← crs_cv c d y]
    have e4 : cv (sb c y) (sb c x) = -crs x y c := by unfold crs cv sb Pt.cr; grind
    have e5 : crs c d x - crs c d y = crs x y d - crs x y c := by unfold crs Pt.cr; grind
    have e6 := crs_flip c d x
    have e7 := crs_flip c d y
    have e8 := crs_flip x y c
    have e9 := crs_flip x y d
    rw [e1, e2, e3, e4] at hs
    rw [e1, e3] at hn
    have hm : meet x y c d = true := by
      unfold meet
      by_cases z1 : crs x y c = 0
      · have : onP x y c = true := on_of (d := d) z1 (by rcases hs with hs | hs <;> omega) (by omega)
        unfold touch; rw [this]; simp
      · by_cases z2 : crs x y d = 0
        · have : onP x y d = true := on_of (d := c) z2 (by rcases hs with hs | hs <;> omega) (by omega)
          unfold touch; rw [this]; simp
        · by_cases z3 : crs c d x = 0
          · have : onP c d x = true := on_of (d := y) z3 (by rcases hs with hs | hs <;> omega) (by omega)
            unfold touch; rw [this]; simp
          · by_cases z4 : crs c d y = 0
            · have : onP c d y = true := on_of (d := x) z4 (by rcases hs with hs | hs <;> omega) (by omega)
              unfold touch; rw [this]; simp
            · rw [parts_of (a := x) (b := y) (c := c) (d := d) (by rcases hs with hs | hs <;> omega), parts_of (a := c) (b := d) (c := x) (d := y) (by rcases hs with hs | hs <;> omega)]
              simp
    rw [hm] at h
    cases h
end Poly
