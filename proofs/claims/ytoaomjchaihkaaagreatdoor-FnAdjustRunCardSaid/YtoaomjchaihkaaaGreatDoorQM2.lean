/-
  Plain facts on quotients in lowest terms, with no Go in sight: two valid quotients of one value are one; a sum taken back; sums in either order.
-/
import Derived.Test.YtoaomjchaihkaaaGreatDoorQz
namespace Quo

theorem coprime_dvd {a b c : Int} (h : Int.gcd a c = 1) (hd : c ∣ a * b) : c ∣ b := by
  rw [← Int.natAbs_dvd_natAbs] at hd ⊢
  rw [Int.natAbs_mul] at hd
  exact Nat.Coprime.dvd_of_dvd_mul_left (by rw [Nat.coprime_comm]; exact h) hd

theorem eq_of_cross {t l t' l' : Int} (h : qv t l = true) (h' : qv t' l' = true) (hx : t * l' = t' * l) : t = t' ∧ l = l' := by
  obtain ⟨a1, -, -, -, a5⟩ := qv_true h
  obtain ⟨b1, -, -, -, b5⟩ := qv_true h'
  have d1 : l ∣ l' := by
    have : l ∣ t * l' := by rw [hx]; exact Int.dvd_mul_left _ _
    exact coprime_dvd a5 this
  have d2 : l' ∣ l := by
    have : l' ∣ t' * l := by rw [← hx]; exact Int.dvd_mul_left _ _
    exact coprime_dvd b5 this
  have e : l = l' := Int.dvd_antisymm (by omega) (by omega) d1 d2
  subst e
  exact ⟨Int.eq_of_mul_eq_mul_right (by omega) hx, rfl⟩

theorem TL_cross {N D : Int} (hD : D ≠ 0) : T N D * D = N * L N D := by
  have g0 := gcd_pos N D hD
  obtain ⟨x, hx⟩ : ((Int.gcd N D : Nat) : Int) ∣ N := Int.gcd_dvd_left _ _
  obtain ⟨y, hy⟩ : ((Int.gcd N D : Nat) : Int) ∣ D := Int.gcd_dvd_right _ _
  by_cases h : D < 0
  · rw [T_neg h, L_neg h]
    generalize ((Int.gcd N D : Nat) : Int) = g at *
    subst hx hy
    rw [Int.mul_tdiv_cancel_left _ (by omega), Int.mul_tdiv_cancel_left _ (by omega)]
    grind
  · have h' : 0 < D := by omega
    have hl : (D.natAbs : Int) = D := by omega
    unfold T L
    rw [if_neg h, hl]
    generalize ((Int.gcd N D : Nat) : Int) = g at *
    subst hx hy
    rw [Int.mul_tdiv_cancel_left _ (by omega), Int.mul_tdiv_cancel_left _ (by omega)]
    grind
theorem L_pos0 {N D : Int} (hD : D ≠ 0) : 0 < L N D := by
  have g0 := gcd_pos N D hD
  obtain ⟨y, hy⟩ : ((Int.gcd N D : Nat) : Int) ∣ (D.natAbs : Int) := by
    rw [Int.dvd_natAbs]; exact Int.gcd_dvd_right _ _
  unfold L
  have hn : 0 < (D.natAbs : Int) := by omega
  generalize ((Int.gcd N D : Nat) : Int) = g at *
  rw [hy] at hn ⊢
  rw [Int.mul_tdiv_cancel_left _ (by omega)]
  exact Int.pos_of_mul_pos_right hn (by omega)

theorem TL_gcd {N D : Int} (hD : D ≠ 0) : Int.gcd (T N D) (L N D) = 1 := by
  have g0 := gcd_pos N D hD
  have hg : 0 < Int.gcd N D := by omega
  have h1 : (T N D).natAbs = N.natAbs / Int.gcd N D := by
    unfold T
    split <;> (simp [Int.natAbs_tdiv]; rfl)
  have h2 : (L N D).natAbs = D.natAbs / Int.gcd N D := by
    unfold L
    rw [Int.natAbs_tdiv]
    rfl
  unfold Int.gcd
  rw [h1, h2]
  have := Nat.gcd_div (Nat.gcd_dvd_left N.natAbs D.natAbs) (Nat.gcd_dvd_right N.natAbs D.natAbs)
  have e : Int.gcd N D = Nat.gcd N.natAbs D.natAbs := rfl
  rw [e] at hg ⊢
  rw [this]
  exact Nat.div_self hg

/-- whatever has the value of a valid quotient is reduced to it -/
theorem reduced {t l N D : Int} (h : qv t l = true) (hD : D ≠ 0) (hx : t * D = N * l) (n1 : -4000000000000000000 ≤ N) (n2 : N ≤ 4000000000000000000) (d1 : -4000000000000000000 ≤ D) (d2 : D ≤ 4000000000000000000) :
    rOk N D = true ∧ rT N D = t ∧ rL N D = l := by
  obtain ⟨a1, -, -, -, a5⟩ := qv_true h
  have c := TL_cross (N := N) hD
  have lp := L_pos0 (N := N) hD
  have hc : T N D * l = t * L N D := by
    apply Int.eq_of_mul_eq_mul_right hD
    grind
  -- T/L and t/l have one value; t/l is in lowest terms, so l divides L; and T, L have no common divisor
  have g1 : Int.gcd (T N D) (L N D) = 1 := TL_gcd hD
  have d1' : l ∣ L N D := by
    have : l ∣ t * L N D := by rw [← hc]; exact Int.dvd_mul_left _ _
    exact coprime_dvd a5 this
  have d2' : L N D ∣ l := by
    have : L N D ∣ T N D * l := by rw [hc]; exact Int.dvd_mul_left _ _
    exact coprime_dvd g1 this
  have e : l = L N D := Int.dvd_antisymm (by omega) (by omega) d1' d2'
  have e2 : T N D = t := by
    rw [← e] at hc
    exact Int.eq_of_mul_eq_mul_right (by omega) hc
  have ok : rOk N D = true := by
    rw [rOk_in n1 n2 d1 d2 hD, e2, ← e]; exact h
  exact ⟨ok, by rw [rT_ok ok, e2], by rw [rL_ok ok, ← e]⟩

theorem of_ok {N D : Int} (h : rOk N D = true) : qv (rT N D) (rL N D) = true ∧ rT N D * D = N * rL N D := by
  rw [rT_ok h, rL_ok h]
  unfold rOk at h
  simp at h
  exact ⟨h.2, TL_cross h.1.2.2.2.2⟩

theorem g_ok {t l s m N D : Int} (h : gOk (both t l s m) N D = true) : qv t l = true ∧ qv s m = true ∧ rOk N D = true ∧ gT (both t l s m) N D = rT N D ∧ gL (both t l s m) N D = rL N D := by
  unfold gOk at h
  simp at h
  have hb := h.1
  unfold both at hb
  simp at hb
  unfold gT gL
  simp [h.1, hb, h.2]
theorem g_of {t l s m N D x y : Int} (h1 : qv t l = true) (h2 : qv s m = true) (h : rOk N D = true ∧ rT N D = x ∧ rL N D = y) : gT (both t l s m) N D = x ∧ gL (both t l s m) N D = y ∧ gOk (both t l s m) N D = true := by
  have hb : both t l s m = true := by unfold both; simp [h1, h2]
  unfold gT gL gOk
  simp [hb, h.1, h.2.1, h.2.2]

theorem add_comm' {a b c d : Int} : gT (both c d a b) (c * b + a * d) (d * b) = gT (both a b c d) (a * d + c * b) (b * d) ∧ gL (both c d a b) (c * b + a * d) (d * b) = gL (both a b c d) (a * d + c * b) (b * d) ∧ gOk (both c d a b) (c * b + a * d) (d * b) = gOk (both a b c d) (a * d + c * b) (b * d) := by
  have e1 : both c d a b = both a b c d := by unfold both; rw [Bool.and_comm]
  rw [e1, Int.add_comm (c * b), Int.mul_comm d b]
  exact ⟨rfl, rfl, rfl⟩

theorem add_back {a b c d : Int} (h : gOk (both a b c d) (a * d + c * b) (b * d) = true) (x y : Int) (hx : gT (both a b c d) (a * d + c * b) (b * d) = x) (hy : gL (both a b c d) (a * d + c * b) (b * d) = y) :
    gT (both x y c d) (x * d - c * y) (y * d) = a ∧ gL (both x y c d) (x * d - c * y) (y * d) = b ∧ gOk (both x y c d) (x * d - c * y) (y * d) = true := by
  obtain ⟨h1, h2, h3, h4, h5⟩ := g_ok h
  obtain ⟨q, e⟩ := of_ok h3
  rw [← h4, ← h5, hx, hy] at q
  rw [← h4, ← h5, hx, hy] at e
  obtain ⟨a1, a2, a3, a4, -⟩ := qv_true h1
  obtain ⟨c1, c2, c3, c4, -⟩ := qv_true h2
  obtain ⟨x1, x2, x3, x4, -⟩ := qv_true q
  obtain ⟨p1, p2⟩ := mul_bd x3 x4 (show -1000000000 ≤ d by omega) c2
  obtain ⟨p3, p4⟩ := mul_bd c3 c4 (show -1000000000 ≤ y by omega) x2
  obtain ⟨p5, p6⟩ := mul_bd (show -1000000000 ≤ y by omega) x2 (show -1000000000 ≤ d by omega) c2
  have p7 : 0 < y * d := Int.mul_pos (by omega) (by omega)
  refine g_of q h2 (reduced h1 (by omega) ?_ (by omega) (by omega) (by omega) (by omega))
  grind

theorem add_assoc' {a b c d x y u1 u2 v1 v2 w1 w2 : Int} (hb : b ≠ 0) (hd : d ≠ 0) (hy : y ≠ 0) (hv : v2 ≠ 0) (ex : x * (b * d) = (a * d + c * b) * y) (eu : u1 * (y * 3) = (x * 3 + 1 * y) * u2) (ev : v1 * (d * 3) = (c * 3 + 1 * d) * v2) (ew : w1 * (b * v2) = (a * v2 + v1 * b) * w2) : u1 * w2 = w1 * u2 := by
  have e1 : u1 * (3 * b * d) = (3 * a * d + 3 * c * b + b * d) * u2 := by
    apply Int.eq_of_mul_eq_mul_right hy
    grind
  have e2 : w1 * (3 * b * d) = (3 * a * d + 3 * c * b + b * d) * w2 := by
    apply Int.eq_of_mul_eq_mul_right hv
    grind
  have hz : 3 * b * d ≠ 0 := by
    intro h
    rcases Int.mul_eq_zero.1 h with h | h
    · rcases Int.mul_eq_zero.1 h with h | h
      · omega
      · exact hb h
    · exact hd h
  apply Int.eq_of_mul_eq_mul_right hz
  grind

theorem add_brackets {a b c d : Int} (h : gOk (both a b c d) (a * d + c * b) (b * d) = true) (x y u1 u2 v1 v2 w1 w2 : Int) (hx : gT (both a b c d) (a * d + c * b) (b * d) = x) (hy : gL (both a b c d) (a * d + c * b) (b * d) = y)
    (hu : gT (both x y 1 3) (x * 3 + 1 * y) (y * 3) = u1 ∧ gL (both x y 1 3) (x * 3 + 1 * y) (y * 3) = u2 ∧ gOk (both x y 1 3) (x * 3 + 1 * y) (y * 3) = true)
    (hv : gT (both c d 1 3) (c * 3 + 1 * d) (d * 3) = v1 ∧ gL (both c d 1 3) (c * 3 + 1 * d) (d * 3) = v2 ∧ gOk (both c d 1 3) (c * 3 + 1 * d) (d * 3) = true)
    (hw : gT (both a b v1 v2) (a * v2 + v1 * b) (b * v2) = w1 ∧ gL (both a b v1 v2) (a * v2 + v1 * b) (b * v2) = w2 ∧ gOk (both a b v1 v2) (a * v2 + v1 * b) (b * v2) = true) :
    u1 = w1 ∧ u2 = w2 := by
  obtain ⟨h1, h2, h3, h4, h5⟩ := g_ok h
  obtain ⟨q, e⟩ := of_ok h3
  rw [← h4, ← h5, hx, hy] at q
  rw [← h4, ← h5, hx, hy] at e
  obtain ⟨-, -, u3, u4, u5⟩ := g_ok hu.2.2
  obtain ⟨qu, eu⟩ := of_ok u3
  rw [← u4, ← u5, hu.1, hu.2.1] at qu
  rw [← u4, ← u5, hu.1, hu.2.1] at eu
  obtain ⟨-, -, v3, v4, v5⟩ := g_ok hv.2.2
  obtain ⟨qv', ev⟩ := of_ok v3
  rw [← v4, ← v5, hv.1, hv.2.1] at qv'
  rw [← v4, ← v5, hv.1, hv.2.1] at ev
  obtain ⟨-, -, w3, w4, w5⟩ := g_ok hw.2.2
  obtain ⟨qw, ew⟩ := of_ok w3
  rw [← w4, ← w5, hw.1, hw.2.1] at qw
  rw [← w4, ← w5, hw.1, hw.2.1] at ew
  obtain ⟨a1, -⟩ := qv_true h1
  obtain ⟨c1, -⟩ := qv_true h2
  obtain ⟨x1, -⟩ := qv_true q
  obtain ⟨v1', -⟩ := qv_true qv'
  exact eq_of_cross qu qw (add_assoc' (by omega) (by omega) (by omega) (by omega) e eu ev ew)

theorem times_comm' {a b c d : Int} : gT (both c d a b) (c * a) (d * b) = gT (both a b c d) (a * c) (b * d) ∧ gL (both c d a b) (c * a) (d * b) = gL (both a b c d) (a * c) (b * d) ∧ gOk (both c d a b) (c * a) (d * b) = gOk (both a b c d) (a * c) (b * d) := by
  have e1 : both c d a b = both a b c d := by unfold both; rw [Bool.and_comm]
  rw [e1, Int.mul_comm c a, Int.mul_comm d b]
  exact ⟨rfl, rfl, rfl⟩

theorem times_zero {a b c d : Int} (h : gOk (both a b c d) (a * c) (b * d) = true) (x : Int) (hx : gT (both a b c d) (a * c) (b * d) = x) : (x == 0) = ((a == 0) || (c == 0)) := by
  obtain ⟨h1, h2, h3, h4, h5⟩ := g_ok h
  obtain ⟨q, e⟩ := of_ok h3
  rw [← h4, ← h5, hx] at q
  rw [← h4, ← h5, hx] at e
  obtain ⟨a1, -⟩ := qv_true h1
  obtain ⟨c1, -⟩ := qv_true h2
  obtain ⟨x1, -⟩ := qv_true q
  generalize gL (both a b c d) (a * c) (b * d) = y at *
  have hbd : b * d ≠ 0 := Int.mul_ne_zero (by omega) (by omega)
  rw [Bool.eq_iff_iff]
  simp
  constructor
  · intro hx0
    rw [hx0, Int.zero_mul] at e
    rcases Int.mul_eq_zero.1 e.symm with h | h
    · exact Int.mul_eq_zero.1 h
    · omega
  · intro hac
    have : a * c = 0 := Int.mul_eq_zero.2 hac
    rw [this, Int.zero_mul] at e
    rcases Int.mul_eq_zero.1 e with h | h
    · exact h
    · exact absurd h hbd

theorem times_over' {a b c d x y s1 s2 u1 u2 v1 v2 w1 w2 : Int} (hb : b ≠ 0) (hd : d ≠ 0) (hy : y ≠ 0) (hs : s2 ≠ 0) (hv : v2 ≠ 0) (ex : x * (b * d) = (a * c) * y) (es : s1 * (d * 2) = (c * 2 + 1 * d) * s2) (eu : u1 * (b * s2) = (a * s1) * u2) (ev : v1 * (b * 2) = (a * 1) * v2) (ew : w1 * (y * v2) = (x * v2 + v1 * y) * w2) : u1 * w2 = w1 * u2 := by
  have e1 : u1 * (2 * b * d) = (2 * a * c + a * d) * u2 := by
    apply Int.eq_of_mul_eq_mul_right hs
    grind
  have e2 : w1 * (2 * b * d) = (2 * a * c + a * d) * w2 := by
    apply Int.eq_of_mul_eq_mul_right hv
    apply Int.eq_of_mul_eq_mul_right hy
    grind
  have hz : 2 * b * d ≠ 0 := by
    intro h
    rcases Int.mul_eq_zero.1 h with h | h
    · rcases Int.mul_eq_zero.1 h with h | h
      · omega
      · exact hb h
    · exact hd h
  apply Int.eq_of_mul_eq_mul_right hz
  grind

theorem times_over {a b c d : Int} (h : gOk (both a b c d) (a * c) (b * d) = true) (x y s1 s2 u1 u2 v1 v2 w1 w2 : Int) (hx : gT (both a b c d) (a * c) (b * d) = x) (hy : gL (both a b c d) (a * c) (b * d) = y)
    (hs : gT (both c d 1 2) (c * 2 + 1 * d) (d * 2) = s1 ∧ gL (both c d 1 2) (c * 2 + 1 * d) (d * 2) = s2 ∧ gOk (both c d 1 2) (c * 2 + 1 * d) (d * 2) = true)
    (hu : gT (both a b s1 s2) (a * s1) (b * s2) = u1 ∧ gL (both a b s1 s2) (a * s1) (b * s2) = u2 ∧ gOk (both a b s1 s2) (a * s1) (b * s2) = true)
    (hv : gT (both a b 1 2) (a * 1) (b * 2) = v1 ∧ gL (both a b 1 2) (a * 1) (b * 2) = v2 ∧ gOk (both a b 1 2) (a * 1) (b * 2) = true)
    (hw : gT (both x y v1 v2) (x * v2 + v1 * y) (y * v2) = w1 ∧ gL (both x y v1 v2) (x * v2 + v1 * y) (y * v2) = w2 ∧ gOk (both x y v1 v2) (x * v2 + v1 * y) (y * v2) = true) :
    u1 = w1 ∧ u2 = w2 := by
  obtain ⟨h1, h2, h3, h4, h5⟩ := g_ok h
  obtain ⟨q, e⟩ := of_ok h3
  rw [← h4, ← h5, hx, hy] at q
  rw [← h4, ← h5, hx, hy] at e
  obtain ⟨-, -, s3, s4, s5⟩ := g_ok hs.2.2
  obtain ⟨qs, es⟩ := of_ok s3
  rw [← s4, ← s5, hs.1, hs.2.1] at qs
  rw [← s4, ← s5, hs.1, hs.2.1] at es
  obtain ⟨-, -, u3, u4, u5⟩ := g_ok hu.2.2
  obtain ⟨qu, eu⟩ := of_ok u3
  rw [← u4, ← u5, hu.1, hu.2.1] at qu
  rw [← u4, ← u5, hu.1, hu.2.1] at eu
  obtain ⟨-, -, v3, v4, v5⟩ := g_ok hv.2.2
  obtain ⟨qv', ev⟩ := of_ok v3
  rw [← v4, ← v5, hv.1, hv.2.1] at qv'
  rw [← v4, ← v5, hv.1, hv.2.1] at ev
  obtain ⟨-, -, w3, w4, w5⟩ := g_ok hw.2.2
  obtain ⟨qw, ew⟩ := of_ok w3
  rw [← w4, ← w5, hw.1, hw.2.1] at qw
  rw [← w4, ← w5, hw.1, hw.2.1] at ew
  obtain ⟨a1, -⟩ := qv_true h1
  obtain ⟨c1, -⟩ := qv_true h2
  obtain ⟨x1, -⟩ := qv_true q
  obtain ⟨s1', -⟩ := qv_true qs
  obtain ⟨v1', -⟩ := qv_true qv'
  exact eq_of_cross qu qw (times_over' (by omega) (by omega) (by omega) (by omega) (by omega) e es eu ev ew)

theorem both_swap (a b c d : Int) : both c d a b = both a b c d := by unfold both; rw [Bool.and_comm]
theorem sg_cases (n : Int) : (sg n = -1 ∧ n < 0) ∨ (sg n = 0 ∧ n = 0) ∨ (sg n = 1 ∧ 0 < n) := by
  unfold sg
  split
  · exact .inl ⟨rfl, by assumption⟩
  · split
    · exact .inr (.inr ⟨rfl, by assumption⟩)
    · exact .inr (.inl ⟨rfl, by omega⟩)
theorem order_neg {a b c d : Int} : gS (both c d a b) (c * b - a * d) = -gS (both a b c d) (a * d - c * b) := by
  rw [both_swap]
  unfold gS
  split
  · have h1 := sg_cases (c * b - a * d)
    have h2 := sg_cases (a * d - c * b)
    omega
  · rfl
theorem order_same {a b c d : Int} (h : both a b c d = true) (h0 : a * d - c * b = 0) : a = c ∧ b = d := by
  unfold both at h
  simp at h
  exact eq_of_cross h.1 h.2 (by omega)
theorem order_other {a b c d : Int} (h0 : a * d - c * b ≠ 0) : ¬ (a = c ∧ b = d) := by
  rintro ⟨rfl, rfl⟩
  omega
theorem take_sign {a b c d : Int} (h : gOk (both a b c d) (a * d - c * b) (b * d) = true) (x : Int) (hx : gT (both a b c d) (a * d - c * b) (b * d) = x) : (0 < a * d - c * b → 0 < x) ∧ (a * d - c * b < 0 → x < 0) ∧ (a * d - c * b = 0 → x = 0) := by
  obtain ⟨h1, h2, h3, h4, h5⟩ := g_ok h
  obtain ⟨q, e⟩ := of_ok h3
  rw [← h4, ← h5, hx] at q
  rw [← h4, ← h5, hx] at e
  obtain ⟨a1, -⟩ := qv_true h1
  obtain ⟨c1, -⟩ := qv_true h2
  obtain ⟨x1, -⟩ := qv_true q
  generalize gL (both a b c d) (a * d - c * b) (b * d) = y at *
  generalize a * d - c * b = n at *
  have hbd : 0 < b * d := Int.mul_pos (by omega) (by omega)
  generalize b * d = m at *
  refine ⟨fun h => ?_, fun h => ?_, fun h => ?_⟩
  · have : 0 < x * m := by rw [e]; exact Int.mul_pos h (by omega)
    exact Int.pos_of_mul_pos_left this hbd
  · have : 0 < -x * m := by rw [Int.neg_mul, e, ← Int.neg_mul]; exact Int.mul_pos (by omega) (by omega)
    have := Int.pos_of_mul_pos_left this hbd
    omega
  · rw [h, Int.zero_mul] at e
    rcases Int.mul_eq_zero.1 e with h | h <;> omega

theorem small_tmod (a n : Int) (h : -n < a) (h' : a < n) : a.tmod n = a := by
  rcases Int.le_total 0 a with h0 | h0
  · rw [Int.tmod_eq_emod_of_nonneg h0, Int.emod_eq_of_lt h0 h']
  · have e := Int.neg_tmod (-a) n
    rw [Int.neg_neg] at e
    rw [e, Int.tmod_eq_emod_of_nonneg (by omega), Int.emod_eq_of_lt (by omega) (by omega), Int.neg_neg]
end Quo
