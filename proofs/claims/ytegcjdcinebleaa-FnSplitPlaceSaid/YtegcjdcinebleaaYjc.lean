/-
  A row of points through a simple closed way: what the way winds around there, and the sum of its crossings. No function of the program is named.
-/
import Derived.Test.YtegcjdcinebleaaYjb
namespace Poly

theorem sub_of {A B x : P2} (h : crs A B x = 0) (hh : (A.2 < x.2 ∧ x.2 < B.2) ∨ (B.2 < x.2 ∧ x.2 < A.2)) : Sub A B x := by
  unfold crs Pt.cr at h
  rcases hh with hh | hh
  · exact ⟨B.2 - A.2, B.2 - x.2, by omega, by omega, by grind, by grind⟩
  · exact ⟨A.2 - B.2, x.2 - B.2, by omega, by omega, by grind, by grind⟩
theorem line_on {A B z : P2} (h : crs A B z = 0) (hh : (A.2 < B.2 ∧ A.2 ≤ z.2 ∧ z.2 ≤ B.2) ∨ (B.2 < A.2 ∧ B.2 ≤ z.2 ∧ z.2 ≤ A.2)) : onP A B z = true := by
  have h' : (B.1 - A.1) * (z.2 - A.2) = (B.2 - A.2) * (z.1 - A.1) := by unfold crs Pt.cr at h; omega
  refine onP_mk h ?_ (by omega)
  rcases hh with ⟨h0, h1, h2⟩ | ⟨h0, h1, h2⟩
  · have e : (B.2 - A.2) * (B.1 - z.1) = (B.1 - A.1) * (B.2 - z.2) := by grind
    rcases Int.le_total 0 (B.1 - A.1) with g | g
    · have g1 : 0 ≤ z.1 - A.1 := pos_of (show 0 < B.2 - A.2 by omega) (by rw [← h']; exact mul_nn g (by omega))
      have g2 : 0 ≤ B.1 - z.1 := pos_of (show 0 < B.2 - A.2 by omega) (by rw [e]; exact mul_nn g (by omega))
      omega
    · have g1 : 0 ≤ -(z.1 - A.1) := pos_of (show 0 < B.2 - A.2 by omega) (by rw [Int.mul_neg, ← h']; have := mul_pn g (show 0 ≤ z.2 - A.2 by omega); omega)
      have g2 : 0 ≤ -(B.1 - z.1) := pos_of (show 0 < B.2 - A.2 by omega) (by rw [Int.mul_neg, e]; have := mul_pn g (show 0 ≤ B.2 - z.2 by omega); omega)
      omega
  · have e0 : (A.2 - B.2) * (z.1 - A.1) = (B.1 - A.1) * (A.2 - z.2) := by grind
    have e : (A.2 - B.2) * (B.1 - z.1) = (B.1 - A.1) * (z.2 - B.2) := by grind
    rcases Int.le_total 0 (B.1 - A.1) with g | g
    · have g1 : 0 ≤ z.1 - A.1 := pos_of (show 0 < A.2 - B.2 by omega) (by rw [e0]; exact mul_nn g (by omega))
      have g2 : 0 ≤ B.1 - z.1 := pos_of (show 0 < A.2 - B.2 by omega) (by rw [e]; exact mul_nn g (by omega))
      omega
    · have g1 : 0 ≤ -(z.1 - A.1) := pos_of (show 0 < A.2 - B.2 by omega) (by rw [Int.mul_neg, e0]; have := mul_pn g (show 0 ≤ A.2 - z.2 by omega); omega)
      have g2 : 0 ≤ -(B.1 - z.1) := pos_of (show 0 < A.2 - B.2 by omega) (by rw [Int.mul_neg, e]; have := mul_pn g (show 0 ≤ z.2 - B.2 by omega); omega)
      omega
/-- strictly between two heights -/
def btw (A B x : P2) : Prop := (A.2 < x.2 ∧ x.2 < B.2) ∨ (B.2 < x.2 ∧ x.2 < A.2)
theorem opp_of {N a U V : Int} (ha : 0 < a) (hN : a < N) (h : N * (0 - V) = a * (U - V)) : (0 < V → U < 0) ∧ (V < 0 → 0 < U) ∧ (V = 0 → U = 0) := by
  have e : a * U = (N - a) * (- V) := by grind
  refine ⟨fun g => ?_, fun g => ?_, fun g => ?_⟩
  · have := mul_sn (show 0 < N - a by omega) (show -V < 0 by omega)
    have := spos_of (x := a) (y := -U) (by omega) (by rw [Int.mul_neg]; omega); omega
  · have := mul_sp (show 0 < N - a by omega) (show 0 < -V by omega)
    exact spos_of (x := a) (by omega) (by rw [e]; exact this)
  · rw [g] at e
    have e' : a * U = 0 := by rw [e]; simp
    rcases Int.mul_eq_zero.1 e' with q | q <;> omega
theorem two_far {X y c d x : P2} (h1 : crs X y x = 0) (h2 : crs c d x = 0) (b1 : btw X y x) (b2 : btw c d x) : meet X y c d = true := by
  obtain ⟨N, a, ha, hN, -, f1, -⟩ := (sub_of h1 b1).crs
  obtain ⟨N', a', ha', hN', -, f2, -⟩ := (sub_of h2 b2).crs
  have k1 := f1 c d
  have k2 := f2 X y
  rw [h2] at k1
  rw [h1] at k2
  obtain ⟨o1, o2, o3⟩ := opp_of ha hN k1
  obtain ⟨p1, p2, p3⟩ := opp_of ha' hN' k2
  have e := crs_four X y c d
  rcases Int.lt_trichotomy (crs c d y) 0 with g | g | g
  · have := o2 g
    apply weak_meet
    refine ⟨.inl ⟨by omega, ?_, by omega, ?_⟩, by omega⟩
    · rcases Int.lt_or_le (crs X y d) 0 with q | q
      · have := p2 q; omega
      · exact q
    · rcases Int.lt_or_le 0 (crs X y c) with q | q
      · rcases Int.lt_trichotomy (crs X y d) 0 with q' | q' | q'
        · omega
        · have := p3 q'; omega
        · have := p1 q'; omega
      · exact q
  · have u := o3 g
    have z : crs X y d = 0 ∧ crs X y c = 0 := by
      rcases Int.lt_trichotomy (crs X y d) 0 with q | q | q
      · have := p2 q; omega
      · exact ⟨q, p3 q⟩
      · have := p1 q; omega
    have ht : touch X y c d = true := by
      unfold touch
      unfold btw at b1 b2
      by_cases q1 : onP X y c = true
      · rw [q1]; simp
      · by_cases q2 : onP X y d = true
        · rw [q2]; simp
        · have n1 : ¬ ((X.2 < y.2 ∧ X.2 ≤ c.2 ∧ c.2 ≤ y.2) ∨ (y.2 < X.2 ∧ y.2 ≤ c.2 ∧ c.2 ≤ X.2)) := fun g => q1 (line_on z.2 g)
          have n2 : ¬ ((X.2 < y.2 ∧ X.2 ≤ d.2 ∧ d.2 ≤ y.2) ∨ (y.2 < X.2 ∧ y.2 ≤ d.2 ∧ d.2 ≤ X.2)) := fun g => q2 (line_on z.1 g)
          have q3 : onP c d X = true := line_on u (by omega)
          rw [q3]; simp
    unfold meet
    rw [ht]; rfl
  · have := o1 g
    apply weak_meet
    refine ⟨.inr ⟨by omega, ?_, by omega, ?_⟩, by omega⟩
    · rcases Int.lt_or_le 0 (crs X y d) with q | q
      · have := p1 q; omega
      · exact q
    · rcases Int.lt_or_le (crs X y c) 0 with q | q
      · rcases Int.lt_trichotomy (crs X y d) 0 with q' | q' | q'
        · have := p2 q'; omega
        · have := p3 q'; omega
        · omega
      · exact q
theorem two_next {A B C x : P2} (h1 : crs A B x = 0) (h2 : crs B C x = 0) (b1 : btw A B x) (b2 : btw B C x) (t : onP A B C = false ∧ onP B C A = false) : False := by
  obtain ⟨N, a, ha, hN, -, f1, -⟩ := (sub_of h2 b2).flip.crs
  have k := f1 A B
  have z : crs A B B = 0 := by unfold crs Pt.cr; grind
  rw [h1, z] at k
  have k' : a * crs A B C = 0 := by rw [Int.sub_zero, Int.sub_zero] at k; rw [← k]; simp
  have hz : crs A B C = 0 := by rcases Int.mul_eq_zero.1 k' with q | q <;> omega
  have hc : cv (sb B A) (sb C B) = 0 := by rw [← hz]; unfold crs Pt.cr cv sb; grind
  rcases turn_psi t.1 t.2 with q | q
  · exact q hc
  · unfold psi sb at q
    unfold btw at b1 b2
    simp only at q
    rcases b1 with b1 | b1 <;> rcases b2 with b2 | b2
    · omega
    · rw [if_pos (by omega), if_neg (by omega)] at q; cases q
    · rw [if_neg (by omega), if_pos (by omega)] at q; cases q
    · omega
variable {P : Nat → P2} {n : Nat} {h : Int} {X : Nat → Int}
/-- how the side crosses the row: 1 upwards, -1 downwards -/
def ep (P : Nat → P2) (h : Int) (i : Nat) : Int := if (P i).2 < h ∧ h < (P (i + 1)).2 then 1 else if (P (i + 1)).2 < h ∧ h < (P i).2 then -1 else 0
theorem ep_btw {i : Nat} (he : ep P h i ≠ 0) (x : Int) : btw (P i) (P (i + 1)) (x, h) := by
  unfold ep at he
  unfold btw
  split at he
  · left; assumption
  · split at he
    · right; assumption
    · exact absurd rfl he
/-- a row without corners, and where the sides cross it -/
structure Row (P : Nat → P2) (n : Nat) (h : Int) (X : Nat → Int) : Prop where
  free : ∀ i, (P i).2 ≠ h
  on : ∀ i, i < n → ep P h i ≠ 0 → crs (P i) (P (i + 1)) (X i, h) = 0
theorem ep_cases (P : Nat → P2) (h : Int) (i : Nat) : ep P h i = 1 ∨ ep P h i = -1 ∨ ep P h i = 0 := by
  unfold ep; split
  · exact .inl rfl
  · split
    · exact .inr (.inl rfl)
    · exact .inr (.inr rfl)
theorem Row.one (hR : Row P n h X) (hP : Way P n) {i j : Nat} (hi : i < n) (hj : j < n) (ei : ep P h i ≠ 0) (ej : ep P h j ≠ 0) (hx : X i = X j) : i = j := by
  have key : ∀ i j, i < j → j < n → ep P h i ≠ 0 → ep P h j ≠ 0 → X i = X j → False := by
    intro i j hij hj ei ej hx
    have o1 := hR.on i (by omega) ei
    have o2 := hR.on j hj ej
    rw [hx] at o1
    by_cases a1 : j = i + 1
    · subst a1
      exact two_next o1 o2 (ep_btw ei _) (ep_btw ej _) (hP.turn i)
    · by_cases a2 : i = 0 ∧ j + 1 = n
      · obtain ⟨rfl, e⟩ := a2
        have q0 : P (j + 1) = P 0 := by rw [e]; have := hP.per 0; rwa [Nat.zero_add] at this
        have q1 : P (j + 2) = P 1 := by rw [show j + 2 = 1 + n by omega]; exact hP.per 1
        have b2 := ep_btw ej (X j)
        have t := hP.turn j
        rw [q0] at o2 b2
        rw [q0, q1] at t
        exact two_next o2 o1 b2 (ep_btw ei _) t
      · have := hP.far i (j - i) (by omega) (by omega)
        rw [show i + (j - i) = j from by omega, two_far o1 o2 (ep_btw ei _) (ep_btw ej _)] at this
        cases this
  rcases Nat.lt_trichotomy i j with g | g | g
  · exact (key i j g hj ei ej hx).elim
  · exact g
  · exact (key j i g hi ej ei hx.symm).elim
theorem Row.chi (hR : Row P n h X) {i : Nat} (hi : i < n) (t : Int) : Poly.chi (sb (P i) (t, h)) (sb (P (i + 1)) (t, h)) = if t < X i then ep P h i else 0 := by
  have f0 := hR.free i
  have f1 := hR.free (i + 1)
  by_cases he : ep P h i = 0
  · rw [he]
    have : Poly.chi (sb (P i) (t, h)) (sb (P (i + 1)) (t, h)) = 0 := by
      unfold ep at he
      unfold Poly.chi
      have s1 : (sb (P i) (t, h)).2 = (P i).2 - h := rfl
      have s2 : (sb (P (i + 1)) (t, h)).2 = (P (i + 1)).2 - h := rfl
      rw [s1, s2]
      split at he
      · cases he
      · split at he
        · cases he
        · rw [if_neg (by omega), if_neg (by omega)]
    rw [this]; split <;> rfl
  · have o := hR.on i hi he
    have e : cv (sb (P i) (t, h)) (sb (P (i + 1)) (t, h)) = ((P (i + 1)).2 - (P i).2) * (X i - t) := by
      rw [cv_sub]
      have : crs (P i) (P (i + 1)) (t, h) = crs (P i) (P (i + 1)) (X i, h) + ((P (i + 1)).2 - (P i).2) * (X i - t) := by unfold crs Pt.cr; grind
      rw [this, o]; omega
    unfold Poly.chi
    have s1 : (sb (P i) (t, h)).2 = (P i).2 - h := rfl
    have s2 : (sb (P (i + 1)) (t, h)).2 = (P (i + 1)).2 - h := rfl
    rw [e, s1, s2]
    have b := ep_btw he t
    unfold btw at b
    simp only at b
    unfold ep
    rcases b with b | b
    · rw [if_pos (by omega), if_pos b]
      by_cases g : t < X i
      · rw [if_pos g, if_pos (mul_sp (by omega) (by omega))]
      · rw [if_neg g, if_neg]
        have := mul_np (show 0 ≤ (P (i + 1)).2 - (P i).2 by omega) (show X i - t ≤ 0 by omega)
        omega
    · have c1 : ¬ ((P i).2 - h ≤ 0 ∧ 0 < (P (i + 1)).2 - h) := by omega
      have c2 : (P (i + 1)).2 - h ≤ 0 ∧ 0 < (P i).2 - h := by omega
      have c3 : ¬ ((P i).2 < h ∧ h < (P (i + 1)).2) := by omega
      rw [if_neg c1, if_pos c2, if_neg c3, if_pos b]
      by_cases g : t < X i
      · rw [if_pos g, if_pos (mul_ns (by omega) (by omega))]
      · rw [if_neg g, if_neg]
        have := mul_nnp (show (P (i + 1)).2 - (P i).2 ≤ 0 by omega) (show X i - t ≤ 0 by omega)
        omega
theorem Row.wn (hR : Row P n h X) (t : Int) : wn P n (t, h) = sumF (fun i => if t < X i then ep P h i else 0) n := sum_congr (fun i hi => hR.chi hi t)
/-- what the way winds around where a side crosses -/
theorem Row.at (hR : Row P n h X) (hP : Way P n) {i : Nat} (hi : i < n) (he : ep P h i ≠ 0) : Poly.wn P n (X i, h) = lw P n 0 - (if ep P h i = 1 then 1 else 0) := by
  have h3 := hP.n3
  have o := hR.on i hi he
  have b := ep_btw he (X i)
  have e1 : P (i + n - 1 + 1) = P i := by rw [show i + n - 1 + 1 = i + n from by omega]; exact hP.per i
  have e2 : P (i + n - 1 + 2) = P (i + 1) := by rw [show i + n - 1 + 2 = i + 1 + n from by omega]; exact hP.per (i + 1)
  have := wn_inner hP (i + n - 1) (x := (X i, h)) (by rw [e1, e2]; exact sub_of o b)
  have ee : ed P (i + n - 1 + 1) = ed P i := by
    unfold ed
    rw [show i + n - 1 + 1 + 1 = i + n - 1 + 2 from rfl, e1, e2]
  rw [ee] at this
  have hp : psi (ed P i) = if ep P h i = 1 then 1 else 0 := by
    unfold btw at b
    simp only at b
    unfold psi ed sb ep
    simp only
    rcases b with b | b
    · rw [if_pos (by omega), if_pos b]; rfl
    · have c1 : ¬ (0 < (P (i + 1)).2 - (P i).2 ∨ ((P (i + 1)).2 - (P i).2 = 0 ∧ (P (i + 1)).1 - (P i).1 < 0)) := by omega
      have c2 : ¬ ((P i).2 < h ∧ h < (P (i + 1)).2) := by omega
      rw [if_neg c1, if_neg c2, if_pos b]; rfl
  omega
theorem sum_single {F : Nat → Int} : ∀ {n k : Nat}, k < n → (∀ i, i < n → i ≠ k → F i = 0) → sumF F n = F k
  | 0, _, h, _ => by omega
  | n + 1, k, h, hz => by
    show sumF F n + F n = F k
    by_cases e : k = n
    · rw [sum_none (fun i hi => hz i (by omega) (by omega)), e]; omega
    · rw [sum_single (k := k) (by omega) (fun i hi hk => hz i (by omega) hk), hz n (by omega) (fun g => e g.symm)]; omega
theorem sum_steps (u : Nat → Int) : ∀ n : Nat, sumF (fun i => u (i + 1) - u i) n = u n - u 0
  | 0 => by show (0 : Int) = _; omega
  | n + 1 => by show sumF _ n + (u (n + 1) - u n) = _; rw [sum_steps u n]; omega
theorem sum_times (c : Int) (F : Nat → Int) : ∀ n : Nat, sumF (fun i => c * F i) n = c * sumF F n
  | 0 => by show (0 : Int) = c * 0; simp
  | n + 1 => by show sumF _ n + c * F n = c * (sumF F n + F n); rw [sum_times c F n]; grind
theorem ep_sum (hP : Way P n) (hf : ∀ i, (P i).2 ≠ h) : sumF (ep P h) n = 0 := by
  have e : sumF (ep P h) n = sumF (fun i => (if h < (P (i + 1)).2 then (1 : Int) else 0) - (if h < (P i).2 then 1 else 0)) n := sum_congr (fun i _ => by
    have := hf i
    have := hf (i + 1)
    unfold ep
    repeat' split
    all_goals omega)
  rw [e, sum_steps (fun i => if h < (P i).2 then (1 : Int) else 0)]
  have := hP.per 0
  rw [Nat.zero_add] at this
  rw [this]; omega
/-- the crossings to the east of a point, each by how far it lies there -/
def sx (P : Nat → P2) (n : Nat) (h : Int) (X : Nat → Int) (t : Int) : Int := sumF (fun i => if t < X i then ep P h i * (X i - t) else 0) n
theorem sx_step (hR : Row P n h X) (t : Int) : sx P n h X (t - 1) = sx P n h X t + Poly.wn P n (t - 1, h) := by
  rw [hR.wn]
  unfold sx
  rw [← sum_plus]
  refine sum_congr (fun i _ => ?_)
  by_cases g : t < X i
  · rw [if_pos (by omega), if_pos g, if_pos (by omega)]; grind
  · by_cases g' : X i = t
    · rw [if_pos (by omega), if_neg g, if_pos (by omega), g', show t - (t - 1) = 1 from by omega]; omega
    · rw [if_neg (by omega), if_neg g, if_neg (by omega)]; rfl
theorem wn_step (hR : Row P n h X) (t : Int) : Poly.wn P n (t - 1, h) = Poly.wn P n (t, h) + sumF (fun i => if X i = t then ep P h i else 0) n := by
  rw [hR.wn, hR.wn, ← sum_plus]
  refine sum_congr (fun i _ => ?_)
  by_cases g : t < X i
  · rw [if_pos (by omega), if_pos g, if_neg (by omega)]; omega
  · by_cases g' : X i = t
    · rw [if_pos (by omega), if_neg g, if_pos g']; omega
    · rw [if_neg (by omega), if_neg g, if_neg g']; rfl
/-- what is known of a row from the east up to a point -/
def Inv (P : Nat → P2) (n : Nat) (h : Int) (X : Nat → Int) (t : Int) : Prop :=
  (Poly.wn P n (t, h) = 0 ∧ sx P n h X t = 0 ∧ ∀ i, i < n → ep P h i ≠ 0 → X i ≤ t) ∨
  ((lw P n 0 = 0 ∨ lw P n 0 = 1) ∧ (Poly.wn P n (t, h) = lw P n 0 ∨ Poly.wn P n (t, h) = lw P n 0 - 1) ∧ 0 < (2 * lw P n 0 - 1) * sx P n h X t)
theorem inv_step (hR : Row P n h X) (hP : Way P n) {t : Int} (hi : Inv P n h X t) : Inv P n h X (t - 1) := by
  have s1 := sx_step hR t
  have s2 := wn_step hR t
  by_cases hc : ∃ i, i < n ∧ ep P h i ≠ 0 ∧ X i = t
  · obtain ⟨i, hin, he, hx⟩ := hc
    have s3 : sumF (fun i => if X i = t then ep P h i else 0) n = ep P h i := by
      rw [sum_single hin (fun j hj hne => ?_), if_pos hx]
      by_cases g : X j = t
      · rw [if_pos g]
        apply Decidable.byContradiction
        intro q
        exact hne (hR.one hP hj hin q he (g.trans hx.symm))
      · rw [if_neg g]
    rw [s3] at s2
    have ha := hR.at hP hin he
    rw [hx] at ha
    right
    rcases hi with ⟨w0, x0, -⟩ | ⟨l, w, x⟩
    · rw [x0] at s1
      rcases ep_cases P h i with q | q | q
      · rw [q, if_pos rfl] at ha
        rw [q] at s2
        have hl : lw P n 0 = 1 := by omega
        rw [hl]
        exact ⟨.inr rfl, .inl (by omega), by omega⟩
      · rw [q, if_neg (by decide)] at ha
        rw [q] at s2
        have hl : lw P n 0 = 0 := by omega
        rw [hl]
        exact ⟨.inl rfl, .inr (by omega), by omega⟩
      · exact absurd q he
    · have hw : Poly.wn P n (t - 1, h) = lw P n 0 ∨ Poly.wn P n (t - 1, h) = lw P n 0 - 1 := by
        rcases ep_cases P h i with q | q | q
        · rw [q, if_pos rfl] at ha; omega
        · rw [q, if_neg (by decide)] at ha; omega
        · exact absurd q he
      refine ⟨l, hw, ?_⟩
      rw [s1]
      rcases l with l | l <;> (rw [l] at x hw ⊢; omega)
  · have hz : ∀ i, i < n → ep P h i ≠ 0 → X i ≠ t := fun i a b c => hc ⟨i, a, b, c⟩
    have s3 : sumF (fun i => if X i = t then ep P h i else 0) n = 0 := sum_none (fun i hin => by
      by_cases g : X i = t
      · rw [if_pos g]
        apply Decidable.byContradiction
        intro q
        exact hz i hin q g
      · rw [if_neg g])
    rw [s3, Int.add_zero] at s2
    rcases hi with ⟨w0, x0, hle⟩ | ⟨l, w, x⟩
    · left
      exact ⟨by omega, by omega, fun i a b => by have := hle i a b; have := hz i a b; omega⟩
    · right
      refine ⟨l, by omega, ?_⟩
      rw [s1]
      rcases l with l | l <;> (rw [l] at x w ⊢; omega)
theorem bound_of (X : Nat → Int) : ∀ n : Nat, ∃ B : Int, ∀ i, i < n → X i ≤ B ∧ -B ≤ X i
  | 0 => ⟨0, fun i h => by omega⟩
  | n + 1 => by
    obtain ⟨B, hB⟩ := bound_of X n
    refine ⟨max B (max (X n) (-X n)), fun i hi => ?_⟩
    by_cases e : i = n
    · subst e; omega
    · have := hB i (by omega); omega
theorem inv_all (hR : Row P n h X) (hP : Way P n) : ∃ B : Int, (∀ i, i < n → X i ≤ B ∧ -B ≤ X i) ∧ ∀ t, t ≤ B → Inv P n h X t := by
  obtain ⟨B, hB⟩ := bound_of X n
  refine ⟨B, hB, fun t ht => ?_⟩
  have h0 : Inv P n h X B := by
    left
    refine ⟨?_, ?_, fun i hi _ => (hB i hi).1⟩
    · rw [hR.wn]; exact sum_none (fun i hi => by have := (hB i hi).1; rw [if_neg (by omega)])
    · unfold sx; exact sum_none (fun i hi => by have := (hB i hi).1; rw [if_neg (by omega)])
  have : ∀ j : Nat, Inv P n h X (B - j) := by
    intro j
    induction j with
    | zero => simpa using h0
    | succ j ih =>
      have := inv_step hR hP ih
      rwa [show B - (j : Int) - 1 = B - ((j + 1 : Nat) : Int) from by omega] at this
  have := this (B - t).toNat
  rwa [show B - (((B - t).toNat : Nat) : Int) = t from by omega] at this
/-- the crossings of a row, each with its direction -/
theorem row_sum (hR : Row P n h X) (hP : Way P n) {k : Nat} (hk : k < n) (he : ep P h k ≠ 0) : (lw P n 0 = 0 ∨ lw P n 0 = 1) ∧ 0 < (2 * lw P n 0 - 1) * sumF (fun i => ep P h i * X i) n := by
  obtain ⟨B, hB, hI⟩ := inv_all hR hP
  have hb := hB k hk
  have e : sx P n h X (-B - 1) = sumF (fun i => ep P h i * X i) n := by
    have e1 : sx P n h X (-B - 1) = sumF (fun i => ep P h i * X i + (B + 1) * ep P h i) n := sum_congr (fun i hi => by
      have := hB i hi
      rw [if_pos (by omega)]; grind)
    rw [e1, sum_plus, sum_times (B + 1) (ep P h), ep_sum hP hR.free]
    simp
  rcases hI (-B - 1) (by omega) with ⟨-, -, q⟩ | ⟨l, -, x⟩
  · have := q k hk he; omega
  · rw [e] at x; exact ⟨l, x⟩
theorem row_none (hz : ∀ k, k < n → ep P h k = 0) : sumF (fun i => ep P h i * X i) n = 0 := sum_none (fun i hi => by rw [hz i hi]; simp)
end Poly
