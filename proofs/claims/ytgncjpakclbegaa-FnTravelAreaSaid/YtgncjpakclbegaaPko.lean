/-
  A parcel without the corners at which it goes straight on: it stays simple and keeps its area and the points on its sides. No function of the program is named.
-/
import Derived.Test.YtgncjpakclbegaaYma
import Derived.Test.YtgncjpakclbegaaPCount
namespace Poly
variable {L : List P2}

theorem crs_def (a b c : P2) : crs a b c = (b.1 - a.1) * (c.2 - a.2) - (b.2 - a.2) * (c.1 - a.1) := rfl
theorem nn_cases {x y : Int} (h : 0 ≤ x * y) : (0 ≤ x ∧ 0 ≤ y) ∨ (x ≤ 0 ∧ y ≤ 0) := by
  rcases Int.lt_trichotomy x 0 with h1 | h1 | h1
  · rcases Int.lt_or_le 0 y with h2 | h2
    · have := Int.mul_neg_of_neg_of_pos h1 h2; omega
    · right; omega
  · rcases Int.le_total 0 y with h2 | h2
    · left; omega
    · right; omega
  · rcases Int.lt_or_le y 0 with h2 | h2
    · have := Int.mul_neg_of_pos_of_neg h1 h2; omega
    · left; omega
theorem np_cases {x y : Int} (h : x * y < 0) : (0 < x ∧ y < 0) ∨ (x < 0 ∧ 0 < y) := by
  rcases Int.lt_trichotomy x 0 with h1 | h1 | h1
  · right; refine ⟨h1, ?_⟩
    rcases Int.lt_or_le 0 y with h2 | h2
    · exact h2
    · have := Int.mul_nonneg_of_nonpos_of_nonpos (Int.le_of_lt h1) h2; omega
  · subst h1; simp at h
  · left; refine ⟨h1, ?_⟩
    rcases Int.lt_or_le y 0 with h2 | h2
    · exact h2
    · have := Int.mul_nonneg (Int.le_of_lt h1) h2; omega
/-- the way from a over q to c goes straight on: the second step is a positive multiple of the first one -/
structure Str (a q c : P2) : Prop where
  mk' ::
  ex : ∃ N D : Int, 0 < N ∧ 0 < D ∧ N * (c.1 - q.1) = D * (q.1 - a.1) ∧ N * (c.2 - q.2) = D * (q.2 - a.2)
theorem onP_iff (a b c : P2) : onP a b c = true ↔ crs a b c = 0 ∧ min a.1 b.1 ≤ c.1 ∧ c.1 ≤ max a.1 b.1 ∧ min a.2 b.2 ≤ c.2 ∧ c.2 ≤ max a.2 b.2 := by
  unfold onP Pt.onB
  rw [decide_eq_true_eq]
  rfl
theorem sq_pos {x : Int} (h : x ≠ 0) : 0 < x * x := by
  rcases Int.lt_or_gt_of_ne h with h1 | h1
  · exact Int.mul_pos_of_neg_of_neg h1 h1
  · exact Int.mul_pos h1 h1
theorem sq_nn (x : Int) : 0 ≤ x * x := by
  by_cases h : x = 0
  · subst h; simp
  · exact Int.le_of_lt (sq_pos h)
/-- two opposite steps of one line: the shorter one lies within the longer one -/
theorem opp_in {ux uy vx vy : Int} (h : ux * vy = uy * vx) (hx : ux * vx < 0) : (min 0 (-ux) ≤ vx ∧ vx ≤ max 0 (-ux) ∧ min 0 (-uy) ≤ vy ∧ vy ≤ max 0 (-uy)) ∨ (min 0 (-vx) ≤ ux ∧ ux ≤ max 0 (-vx) ∧ min 0 (-vy) ≤ uy ∧ uy ≤ max 0 (-vy)) := by
  have key : ∀ {ux uy vx vy : Int}, ux * vy = uy * vx → 0 < ux → vx < 0 → -vx ≤ ux → min 0 (-uy) ≤ vy ∧ vy ≤ max 0 (-uy) := by
    intro ux uy vx vy h h1 h2 h3
    -- ux * vy = uy * vx; |vx| ≤ ux
    rcases Int.le_total 0 uy with h4 | h4
    · have e1 : ux * vy ≤ 0 := by rw [h]; exact Int.mul_nonpos_of_nonneg_of_nonpos h4 (Int.le_of_lt h2)
      have e2 : vy ≤ 0 := by
        rcases Int.lt_or_le 0 vy with h5 | h5
        · have := Int.mul_pos h1 h5; omega
        · exact h5
      have e3 : ux * (-uy) ≤ ux * vy := by
        rw [h]
        have := Int.mul_le_mul_of_nonneg_left (c := uy) (show -ux ≤ vx by omega) h4
        have e : ux * -uy = uy * -ux := by grind
        omega
      have e4 : -uy ≤ vy := Int.le_of_mul_le_mul_left e3 h1
      omega
    · have e1 : 0 ≤ ux * vy := by rw [h]; exact Int.mul_nonneg_of_nonpos_of_nonpos h4 (Int.le_of_lt h2)
      have e2 : 0 ≤ vy := by
        rcases Int.lt_or_le vy 0 with h5 | h5
        · have := Int.mul_neg_of_pos_of_neg h1 h5; omega
        · exact h5
      have e3 : ux * vy ≤ ux * (-uy) := by
        rw [h]
        have := Int.mul_le_mul_of_nonneg_left (c := -uy) (show -ux ≤ vx by omega) (by omega)
        have e : ux * -uy = -uy * ux := by grind
        have e' : uy * vx = -(-uy * vx) := by grind
        have e'' : -uy * -ux = -(-uy * ux) := by grind
        omega
      have e4 : vy ≤ -uy := Int.le_of_mul_le_mul_left e3 h1
      omega
  rcases np_cases hx with ⟨h1, h2⟩ | ⟨h1, h2⟩
  · by_cases h3 : -vx ≤ ux
    · left; have := key h h1 h2 h3; omega
    · right
      have h' : (-vx) * (-uy) = (-vy) * (-ux) := by grind
      have := key h' (by omega) (by omega) (by omega)
      omega
  · by_cases h3 : vx ≤ -ux
    · left
      have h' : (-ux) * (-vy) = (-uy) * (-vx) := by grind
      have := key h' (by omega) (by omega) (by omega)
      omega
    · right
      have h' : vx * uy = vy * ux := by grind
      have := key h' (by omega) (by omega) (by omega)
      omega
theorem str_of {a q c : P2} (h0 : crs a q c = 0) (h1 : onP a q c = false) (h2 : onP q c a = false) : Str a q c := by
  obtain ⟨ux, hux⟩ : ∃ u, q.1 - a.1 = u := ⟨_, rfl⟩
  obtain ⟨uy, huy⟩ : ∃ u, q.2 - a.2 = u := ⟨_, rfl⟩
  obtain ⟨vx, hvx⟩ : ∃ v, c.1 - q.1 = v := ⟨_, rfl⟩
  obtain ⟨vy, hvy⟩ : ∃ v, c.2 - q.2 = v := ⟨_, rfl⟩
  have hc : ux * vy = uy * vx := by
    rw [crs_def, hux, huy, show c.2 - a.2 = uy + vy by omega, show c.1 - a.1 = ux + vx by omega] at h0
    grind
  have h0' : crs q c a = 0 := by rw [crs_def] at h0 ⊢; grind
  have n1 : ¬ (min a.1 q.1 ≤ c.1 ∧ c.1 ≤ max a.1 q.1 ∧ min a.2 q.2 ≤ c.2 ∧ c.2 ≤ max a.2 q.2) := fun h => by
    have := (onP_iff a q c).2 ⟨h0, h⟩; rw [h1] at this; cases this
  have n2 : ¬ (min q.1 c.1 ≤ a.1 ∧ a.1 ≤ max q.1 c.1 ∧ min q.2 c.2 ≤ a.2 ∧ a.2 ≤ max q.2 c.2) := fun h => by
    have := (onP_iff q c a).2 ⟨h0', h⟩; rw [h2] at this; cases this
  have hx : 0 ≤ ux * vx := by
    rcases Int.lt_or_le (ux * vx) 0 with h | h
    · rcases opp_in hc h with h | h
      · exact absurd (by omega) n1
      · exact absurd (by omega) n2
    · exact h
  have hy : 0 ≤ uy * vy := by
    rcases Int.lt_or_le (uy * vy) 0 with h | h
    · rcases opp_in (ux := uy) (uy := ux) (vx := vy) (vy := vx) hc.symm h with h | h
      · exact absurd (by omega) n1
      · exact absurd (by omega) n2
    · exact h
  have hu : ux ≠ 0 ∨ uy ≠ 0 := by
    by_cases e : ux = 0
    · right; intro e2; exact absurd (by omega) n2
    · exact .inl e
  have hv : vx ≠ 0 ∨ vy ≠ 0 := by
    by_cases e : vx = 0
    · right; intro e2; exact absurd (by omega) n1
    · exact .inl e
  have hN : 0 < ux * ux + uy * uy := by
    have s1 := sq_nn ux; have s2 := sq_nn uy
    rcases hu with e | e
    · have := sq_pos e; omega
    · have := sq_pos e; omega
  have hD : 0 < ux * vx + uy * vy := by
    rcases Int.lt_or_le 0 (ux * vx + uy * vy) with h | h
    · exact h
    · exfalso
      have z1 : ux * vx = 0 := by omega
      have z2 : uy * vy = 0 := by omega
      have hM : 0 < vx * vx + vy * vy := by
        have s1 := sq_nn vx; have s2 := sq_nn vy
        rcases hv with e | e
        · have := sq_pos e; omega
        · have := sq_pos e; omega
      have hp := Int.mul_pos hN hM
      have : (ux * ux + uy * uy) * (vx * vx + vy * vy) = (ux * vx + uy * vy) * (ux * vx + uy * vy) + (ux * vy - uy * vx) * (ux * vy - uy * vx) := by grind
      rw [this, z1, z2, hc] at hp
      simp at hp
  refine ⟨ux * ux + uy * uy, ux * vx + uy * vy, hN, hD, ?_, ?_⟩
  · rw [hvx, hux]; grind
  · rw [hvy, huy]; grind
theorem sgn_pos {N D x y : Int} (hN : 0 < N) (hD : 0 < D) (h : N * x = D * y) : sgn x = sgn y := by
  unfold sgn
  rcases Int.lt_trichotomy x 0 with h1 | h1 | h1
  · have h2 := Int.mul_neg_of_pos_of_neg hN h1
    have : y < 0 := by
      rcases Int.lt_or_le y 0 with h3 | h3
      · exact h3
      · have := Int.mul_nonneg (Int.le_of_lt hD) h3; omega
    rw [if_pos h1, if_pos this]
  · subst h1
    have : y = 0 := by
      rw [Int.mul_zero] at h
      rcases Int.mul_eq_zero.1 h.symm with h2 | h2
      · omega
      · exact h2
    subst this; rfl
  · have h2 := Int.mul_pos hN h1
    have : 0 < y := by
      rcases Int.lt_or_le 0 y with h3 | h3
      · exact h3
      · have := Int.mul_nonpos_of_nonneg_of_nonpos (Int.le_of_lt hD) h3; omega
    rw [if_neg (show ¬ x < 0 by omega), if_pos h1, if_neg (show ¬ y < 0 by omega), if_pos this]
section
variable {a q c : P2}
theorem Str.crs0 (h : Str a q c) : crs a q c = 0 ∧ crs a c q = 0 := by
  obtain ⟨N, D, hN, hD, e1, e2⟩ := h.ex
  have k : N * ((q.1 - a.1) * (c.2 - q.2) - (q.2 - a.2) * (c.1 - q.1)) = 0 := by grind
  have k2 : (q.1 - a.1) * (c.2 - q.2) - (q.2 - a.2) * (c.1 - q.1) = 0 := by
    rcases Int.mul_eq_zero.1 k with h | h
    · omega
    · exact h
  rw [crs_def, crs_def]
  constructor <;> grind
theorem Str.left (h : Str a q c) (x : P2) : sd a q x = sd a c x := by
  obtain ⟨N, D, hN, hD, e1, e2⟩ := h.ex
  have k : (N + D) * crs a q x = N * crs a c x := by rw [crs_def, crs_def]; grind
  exact sgn_pos (show 0 < N + D by omega) hN k
theorem Str.right (h : Str a q c) (x : P2) : sd q c x = sd a c x := by
  obtain ⟨N, D, hN, hD, e1, e2⟩ := h.ex
  have k0 := h.crs0.2
  have k : (N + D) * crs q c x = D * crs a c x := by rw [crs_def] at k0; rw [crs_def, crs_def]; grind
  exact sgn_pos (show 0 < N + D by omega) hD k
theorem Str.from (h : Str a q c) (x : P2) : sd x a q = sd x a c := by
  obtain ⟨N, D, hN, hD, e1, e2⟩ := h.ex
  have k : (N + D) * crs x a q = N * crs x a c := by rw [crs_def, crs_def]; grind
  exact sgn_pos (show 0 < N + D by omega) hN k
theorem Str.mid (h : Str a q c) (x y : P2) : ∃ N D : Int, 0 < N ∧ 0 < D ∧ N * crs x y c + D * crs x y a = (N + D) * crs x y q := by
  obtain ⟨N, D, hN, hD, e1, e2⟩ := h.ex
  exact ⟨N, D, hN, hD, by rw [crs_def, crs_def, crs_def]; grind⟩
/-- the coordinates go one way -/
theorem Str.ways (h : Str a q c) : ((a.1 ≤ q.1 ∧ q.1 ≤ c.1) ∨ (c.1 ≤ q.1 ∧ q.1 ≤ a.1)) ∧ ((a.2 ≤ q.2 ∧ q.2 ≤ c.2) ∨ (c.2 ≤ q.2 ∧ q.2 ≤ a.2)) ∧ (q.1 = a.1 ↔ c.1 = q.1) ∧ (q.2 = a.2 ↔ c.2 = q.2) := by
  obtain ⟨N, D, hN, hD, e1, e2⟩ := h.ex
  have key : ∀ x y : Int, N * y = D * x → ((0 ≤ x ∧ 0 ≤ y) ∨ (x ≤ 0 ∧ y ≤ 0)) ∧ (x = 0 ↔ y = 0) := by
    intro x y h
    have hs := sgn_pos hN hD h
    unfold sgn at hs
    split at hs <;> split at hs <;> (try split at hs) <;> (try split at hs) <;> omega
  have k1 := key _ _ e1
  have k2 := key _ _ e2
  omega
theorem Str.between (h : Str a q c) : onP a c q = true := by
  have := h.ways
  exact (onP_iff a c q).2 ⟨h.crs0.2, by omega, by omega, by omega, by omega⟩
theorem sd_zero (a b c : P2) : sd a b c = 0 ↔ crs a b c = 0 := by unfold sd sgn; split <;> (try split) <;> omega
theorem Str.split (h : Str a q c) {x : P2} (hx : onP a c x = true) : onP a q x = true ∨ onP q c x = true := by
  obtain ⟨h0, h1, h2, h3, h4⟩ := (onP_iff a c x).1 hx
  have z1 : crs a q x = 0 := (sd_zero _ _ _).1 (by rw [h.left]; exact (sd_zero _ _ _).2 h0)
  have z2 : crs q c x = 0 := (sd_zero _ _ _).1 (by rw [h.right]; exact (sd_zero _ _ _).2 h0)
  have hw := h.ways
  obtain ⟨ux, hux⟩ : ∃ u, q.1 - a.1 = u := ⟨_, rfl⟩
  obtain ⟨uy, huy⟩ : ∃ u, q.2 - a.2 = u := ⟨_, rfl⟩
  obtain ⟨rx, hrx⟩ : ∃ u, x.1 - q.1 = u := ⟨_, rfl⟩
  obtain ⟨ry, hry⟩ : ∃ u, x.2 - q.2 = u := ⟨_, rfl⟩
  have hc : ux * ry = uy * rx := by
    rw [crs_def, hux, huy, show x.2 - a.2 = uy + ry by omega, show x.1 - a.1 = ux + rx by omega] at z1
    grind
  have hp : 0 ≤ (rx * ux) * (ry * uy) := by
    have : (rx * ux) * (ry * uy) = (ux * ry) * (uy * rx) := by grind
    rw [this, ← hc]; exact sq_nn _
  rcases nn_cases hp with ⟨p1, p2⟩ | ⟨p1, p2⟩
  · right
    have q1 := nn_cases p1; have q2 := nn_cases p2
    exact (onP_iff q c x).2 ⟨z2, by omega, by omega, by omega, by omega⟩
  · left
    have p1' : 0 ≤ (-rx) * ux := by rw [Int.neg_mul]; omega
    have p2' : 0 ≤ (-ry) * uy := by rw [Int.neg_mul]; omega
    have q1 := nn_cases p1'; have q2 := nn_cases p2'
    exact (onP_iff a q x).2 ⟨z1, by omega, by omega, by omega, by omega⟩
theorem sgn_lt {x : Int} (h : x < 0) : sgn x = -1 := by unfold sgn; rw [if_pos h]
theorem sgn_gt {x : Int} (h : 0 < x) : sgn x = 1 := by unfold sgn; rw [if_neg (show ¬ x < 0 by omega), if_pos h]
theorem sgn_mul_neg {x y : Int} : sgn x * sgn y < 0 ↔ (0 < x ∧ y < 0) ∨ (x < 0 ∧ 0 < y) := by
  have s0 : sgn 0 = 0 := rfl
  rcases Int.lt_trichotomy x 0 with h1 | h1 | h1 <;> rcases Int.lt_trichotomy y 0 with h2 | h2 | h2 <;>
    first
    | (rw [sgn_lt h1, sgn_lt h2]; constructor <;> intro h <;> omega)
    | (rw [sgn_lt h1, sgn_gt h2]; constructor <;> intro h <;> omega)
    | (rw [sgn_gt h1, sgn_lt h2]; constructor <;> intro h <;> omega)
    | (rw [sgn_gt h1, sgn_gt h2]; constructor <;> intro h <;> omega)
    | (subst h1; rw [s0, Int.zero_mul]; constructor <;> intro h <;> omega)
    | (subst h2; rw [s0, Int.mul_zero]; constructor <;> intro h <;> omega)
theorem parts_iff (a b c d : P2) : parts a b c d = true ↔ (0 < crs a b c ∧ crs a b d < 0) ∨ (crs a b c < 0 ∧ 0 < crs a b d) := by
  unfold parts sd
  rw [decide_eq_true_eq, sgn_mul_neg]
theorem Str.meet (h : Str a q c) {x y : P2} (hm : Poly.meet a c x y = true) : Poly.meet a q x y = true ∨ Poly.meet q c x y = true := by
  unfold Poly.meet touch at hm ⊢
  simp only [Bool.or_eq_true, Bool.and_eq_true] at hm ⊢
  rcases hm with (((h1 | h1) | h1) | h1) | ⟨h1, h2⟩
  · rcases h.split h1 with k | k
    · exact .inl (.inl (.inl (.inl (.inl k))))
    · exact .inr (.inl (.inl (.inl (.inl k))))
  · rcases h.split h1 with k | k
    · exact .inl (.inl (.inl (.inl (.inr k))))
    · exact .inr (.inl (.inl (.inl (.inr k))))
  · exact .inl (.inl (.inl (.inr h1)))
  · exact .inr (.inl (.inr h1))
  · have pl : parts a q x y = parts a c x y := by unfold parts; rw [h.left, h.left]
    have pr : parts q c x y = parts a c x y := by unfold parts; rw [h.right, h.right]
    rw [pl, pr]
    obtain ⟨N, D, hN, hD, e⟩ := h.mid x y
    have h2' := (parts_iff x y a c).1 h2
    rcases Int.lt_trichotomy (crs x y q) 0 with hq | hq | hq
    · rcases h2' with ⟨k1, k2⟩ | ⟨k1, k2⟩
      · exact .inl (.inr ⟨h1, (parts_iff x y a q).2 (.inl ⟨k1, hq⟩)⟩)
      · exact .inr (.inr ⟨h1, (parts_iff x y q c).2 (.inr ⟨hq, k2⟩)⟩)
    · have h1' := (parts_iff a c x y).1 h1
      have z := h.crs0.2
      obtain ⟨wx, hwx⟩ : ∃ u, c.1 - a.1 = u := ⟨_, rfl⟩
      obtain ⟨wy, hwy⟩ : ∃ u, c.2 - a.2 = u := ⟨_, rfl⟩
      obtain ⟨rx, hrx⟩ : ∃ u, x.1 - q.1 = u := ⟨_, rfl⟩
      obtain ⟨ry, hry⟩ : ∃ u, x.2 - q.2 = u := ⟨_, rfl⟩
      obtain ⟨sx, hsx⟩ : ∃ u, y.1 - q.1 = u := ⟨_, rfl⟩
      obtain ⟨sy, hsy⟩ : ∃ u, y.2 - q.2 = u := ⟨_, rfl⟩
      have hE1 : crs a c x = wx * ry - wy * rx := by
        rw [crs_def, hwx, hwy] at z ⊢
        rw [show x.2 - a.2 = (q.2 - a.2) + ry by omega, show x.1 - a.1 = (q.1 - a.1) + rx by omega]
        grind
      have hE2 : crs a c y = wx * sy - wy * sx := by
        rw [crs_def, hwx, hwy] at z ⊢
        rw [show y.2 - a.2 = (q.2 - a.2) + sy by omega, show y.1 - a.1 = (q.1 - a.1) + sx by omega]
        grind
      have hcol : rx * sy = ry * sx := by
        rw [crs_def] at hq
        rw [show y.1 - x.1 = sx - rx by omega, show y.2 - x.2 = sy - ry by omega, show q.2 - x.2 = -ry by omega, show q.1 - x.1 = -rx by omega] at hq
        grind
      have k1 : rx * crs a c y = sx * crs a c x := by rw [hE1, hE2]; grind
      have k2 : ry * crs a c y = sy * crs a c x := by rw [hE1, hE2]; grind
      have key : ∀ {r s E1 E2 : Int}, r * E2 = s * E1 → ((0 < E1 ∧ E2 < 0) ∨ (E1 < 0 ∧ 0 < E2)) → (r ≤ 0 ∧ 0 ≤ s) ∨ (0 ≤ r ∧ s ≤ 0) := by
        intro r s E1 E2 h hE
        rcases hE with ⟨g1, g2⟩ | ⟨g1, g2⟩
        · rcases Int.lt_trichotomy r 0 with h1 | h1 | h1
          · left
            have := Int.mul_pos_of_neg_of_neg h1 g2
            refine ⟨by omega, ?_⟩
            rcases Int.lt_or_le s 0 with h2 | h2
            · have := Int.mul_neg_of_neg_of_pos h2 g1; omega
            · exact h2
          · subst h1
            have : s = 0 := by
              rw [Int.zero_mul] at h
              rcases Int.mul_eq_zero.1 h.symm with h2 | h2
              · exact h2
              · omega
            omega
          · right
            have := Int.mul_neg_of_pos_of_neg h1 g2
            refine ⟨by omega, ?_⟩
            rcases Int.lt_or_le 0 s with h2 | h2
            · have := Int.mul_pos h2 g1; omega
            · exact h2
        · rcases Int.lt_trichotomy r 0 with h1 | h1 | h1
          · left
            have := Int.mul_neg_of_neg_of_pos h1 g2
            refine ⟨by omega, ?_⟩
            rcases Int.lt_or_le s 0 with h2 | h2
            · have := Int.mul_pos_of_neg_of_neg h2 g1; omega
            · exact h2
          · subst h1
            have : s = 0 := by
              rw [Int.zero_mul] at h
              rcases Int.mul_eq_zero.1 h.symm with h2 | h2
              · exact h2
              · omega
            omega
          · right
            have := Int.mul_pos h1 g2
            refine ⟨by omega, ?_⟩
            rcases Int.lt_or_le 0 s with h2 | h2
            · have := Int.mul_neg_of_pos_of_neg h2 g1; omega
            · exact h2
      have b1 := key k1 h1'
      have b2 := key k2 h1'
      have hon : onP x y q = true := (onP_iff x y q).2 ⟨hq, by omega, by omega, by omega, by omega⟩
      exact .inl (.inl (.inr hon))
    · rcases h2' with ⟨k1, k2⟩ | ⟨k1, k2⟩
      · exact .inr (.inr ⟨h1, (parts_iff x y q c).2 (.inl ⟨hq, k2⟩)⟩)
      · exact .inl (.inr ⟨h1, (parts_iff x y a q).2 (.inr ⟨k1, hq⟩)⟩)
end
end Poly
