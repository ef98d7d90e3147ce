/-
  The area of a simple closed way is not 0: its rows all have one sign. No function of the program is named.
-/
import Derived.Test.YtegcjdcinebleaaYjc
namespace Poly

def scP (D : Int) (p : P2) : P2 := (D * p.1, D * p.2)
theorem crs_sc (D : Int) (a b c : P2) : crs (scP D a) (scP D b) (scP D c) = D * D * crs a b c := by unfold crs Pt.cr scP; grind
theorem mul_le_iff {D a b : Int} (h : 0 < D) : D * a ≤ D * b ↔ a ≤ b := by
  constructor
  · intro g
    have : 0 ≤ b - a := pos_of h (by rw [Int.mul_sub]; omega)
    omega
  · intro g
    have := mul_nn (show 0 ≤ D by omega) (show 0 ≤ b - a by omega)
    rw [Int.mul_sub] at this; omega
theorem minmax_sc {D a b c : Int} (h : 0 < D) : (min (D * a) (D * b) ≤ D * c ↔ min a b ≤ c) ∧ (D * c ≤ max (D * a) (D * b) ↔ c ≤ max a b) := by
  have h1 := mul_le_iff (a := a) (b := c) h
  have h2 := mul_le_iff (a := b) (b := c) h
  have h3 := mul_le_iff (a := c) (b := a) h
  have h4 := mul_le_iff (a := c) (b := b) h
  omega
theorem onP_sc {D : Int} (h : 0 < D) (a b c : P2) : onP (scP D a) (scP D b) (scP D c) = onP a b c := by
  have e := crs_sc D a b c
  have x := minmax_sc (a := a.1) (b := b.1) (c := c.1) h
  have y := minmax_sc (a := a.2) (b := b.2) (c := c.2) h
  have hz : D * D * crs a b c = 0 ↔ crs a b c = 0 := by
    constructor
    · intro g
      rcases Int.mul_eq_zero.1 g with g | g
      · have := mul_sp h h; omega
      · exact g
    · intro g; rw [g]; simp
  unfold onP Pt.onB
  apply decide_eq_decide.2
  unfold crs at e hz
  rw [e, hz]
  unfold scP
  simp only
  rw [x.1, x.2, y.1, y.2]
theorem sd_sc {D : Int} (h : 0 < D) (a b c : P2) : sd (scP D a) (scP D b) (scP D c) = sd a b c := by
  unfold sd
  rw [crs_sc]
  have hd := mul_sp h h
  rcases Int.lt_trichotomy (crs a b c) 0 with g | g | g
  · rw [sgnN g, sgnN (mul_sn hd g)]
  · rw [g]; simp
  · rw [sgnP g, sgnP (mul_sp hd g)]
theorem meet_sc {D : Int} (h : 0 < D) (a b c d : P2) : meet (scP D a) (scP D b) (scP D c) (scP D d) = meet a b c d := by
  unfold meet touch parts
  simp only [onP_sc h, sd_sc h]
variable {P : Nat → P2} {n : Nat}
def scW (D : Int) (P : Nat → P2) (i : Nat) : P2 := scP D (P i)
theorem way_sc {D : Int} (h : 0 < D) (hP : Way P n) : Way (scW D P) n := by
  refine ⟨hP.n3, fun i => ?_, fun k t h2 hn => ?_, fun k => ?_⟩
  · unfold scW; rw [hP.per]
  · unfold scW; rw [meet_sc h]; exact hP.far k t h2 hn
  · unfold scW; rw [onP_sc h, onP_sc h]; exact hP.turn k
/-- some side goes up or down -/
theorem not_flat (hP : Way P n) : ∃ i, i < n ∧ (P (i + 1)).2 ≠ (P i).2 := by
  apply Decidable.byContradiction
  intro hno
  have h3 := hP.n3
  have hmod : ∀ i, P i = P (i % n) := by
    have aux : ∀ q r, P (r + q * n) = P r := by
      intro q
      induction q with
      | zero => intro r; simp
      | succ q ih => intro r; rw [Nat.succ_mul, ← Nat.add_assoc, hP.per, ih]
    intro i
    have := aux (i / n) (i % n)
    rw [Nat.mul_comm, Nat.mod_add_div] at this
    exact this
  have flat : ∀ i, (P (i + 1)).2 = (P i).2 := by
    intro i
    have hlt : i % n < n := Nat.mod_lt i (by omega)
    apply Decidable.byContradiction
    intro g
    refine hno ⟨i % n, hlt, ?_⟩
    have e1 : P (i % n + 1) = P (i + 1) := by rw [hmod (i + 1), hmod (i % n + 1), Nat.mod_add_mod]
    rw [e1, ← hmod i]
    exact g
  have hne : ∀ i, (P (i + 1)).1 ≠ (P i).1 := by
    intro i g
    have e : P (i + 1) = P i := Prod.ext g (flat i)
    have := (hP.turn i).2
    rw [e] at this
    rw [onP_mk (by unfold crs Pt.cr; grind) (by omega) (by omega)] at this
    cases this
  have hps : ∀ i, psi (ed P (i + 1)) = psi (ed P i) := by
    intro i
    rcases turn_psi (hP.turn i).1 (hP.turn i).2 with g | g
    · exfalso
      apply g
      unfold cv sb
      simp only
      rw [flat (i + 1), flat i]
      grind
    · exact g.symm
  have hall : ∀ i, psi (ed P i) = psi (ed P 0) := by
    intro i
    induction i with
    | zero => rfl
    | succ i ih => rw [hps, ih]
  have hval : ∀ i, psi (ed P i) = if (P (i + 1)).1 < (P i).1 then 1 else 0 := by
    intro i
    have := flat i
    unfold psi ed sb
    simp only
    by_cases g : (P (i + 1)).1 < (P i).1
    · rw [if_pos (by omega), if_pos g]
    · rw [if_neg g, if_neg]; omega
  have hend := hP.per 0
  rw [Nat.zero_add] at hend
  by_cases g0 : (P 1).1 < (P 0).1
  · have hdn : ∀ i, (P (i + 1)).1 < (P i).1 := by
      intro i
      have := hall i
      rw [hval, hval 0, if_pos g0] at this
      apply Decidable.byContradiction
      intro q
      rw [if_neg q] at this
      cases this
    have : ∀ i : Nat, (P i).1 ≤ (P 0).1 - i := by
      intro i
      induction i with
      | zero => simp
      | succ i ih => have := hdn i; omega
    have := this n
    rw [hend] at this
    omega
  · have hup : ∀ i, (P i).1 < (P (i + 1)).1 := by
      intro i
      have := hall i
      rw [hval, hval 0, if_neg g0] at this
      have q := hne i
      apply Decidable.byContradiction
      intro q'
      rw [if_pos (by omega)] at this
      cases this
    have : ∀ i : Nat, (P 0).1 + i ≤ (P i).1 := by
      intro i
      induction i with
      | zero => simp
      | succ i ih => have := hup i; omega
    have := this n
    rw [hend] at this
    omega
/-- a number that all heights of sides divide -/
theorem common_of (P : Nat → P2) : ∀ n : Nat, ∃ d : Int, 0 < d ∧ ∀ i, i < n → (P (i + 1)).2 - (P i).2 ≠ 0 → ∃ m, d = ((P (i + 1)).2 - (P i).2) * m
  | 0 => ⟨1, by omega, fun i h => by omega⟩
  | n + 1 => by
    obtain ⟨d, hd, h⟩ := common_of P n
    by_cases hz : (P (n + 1)).2 - (P n).2 = 0
    · refine ⟨d, hd, fun i hi hne => ?_⟩
      by_cases e : i = n
      · subst e; exact absurd hz hne
      · exact h i (by omega) hne
    · refine ⟨d * (((P (n + 1)).2 - (P n).2) * ((P (n + 1)).2 - (P n).2)), ?_, fun i hi hne => ?_⟩
      · refine mul_sp hd ?_
        rcases Int.lt_or_gt_of_ne hz with g | g
        · exact mul_ss g g
        · exact mul_sp g g
      · by_cases e : i = n
        · subst e; exact ⟨d * ((P (i + 1)).2 - (P i).2), by grind⟩
        · obtain ⟨m, hm⟩ := h i (by omega) hne
          exact ⟨m * (((P (n + 1)).2 - (P n).2) * ((P (n + 1)).2 - (P n).2)), by rw [hm]; grind⟩
/-- whether a row between two whole heights crosses a side -/
def cx (a b y : Int) : Int := if a ≤ y ∧ y < b then 1 else if b ≤ y ∧ y < a then -1 else 0
theorem ep_row {d : Int} (hd : 0 < d) (y : Int) (i : Nat) : ep (scW (2 * d) P) (d * (2 * y + 1)) i = cx (P i).2 (P (i + 1)).2 y := by
  have k : ∀ a : Int, (2 * d * a < d * (2 * y + 1) ↔ a ≤ y) ∧ (d * (2 * y + 1) < 2 * d * a ↔ y < a) := by
    intro a
    have h1 := mul_le_iff (a := 2 * a) (b := 2 * y + 1) hd
    have h2 := mul_le_iff (a := 2 * y + 1) (b := 2 * a) hd
    have e : 2 * d * a = d * (2 * a) := by grind
    rw [e]
    omega
  have k1 := k (P i).2
  have k2 := k (P (i + 1)).2
  unfold ep cx scW scP
  simp only [k1.1, k1.2, k2.1, k2.2]
/-- all rows' crossings of one side -/
theorem side_sum {M xa xb ya yb d m : Int} (hM : 0 ≤ M) (ha : -M ≤ ya ∧ ya ≤ M) (hb : -M ≤ yb ∧ yb ≤ M) (hm : yb - ya ≠ 0 → d = (yb - ya) * m) :
    sumF (fun j => cx ya yb ((j : Int) - M) * (2 * d * xa + m * (xb - xa) * (2 * ((j : Int) - M - ya) + 1))) (2 * M).toNat = d * ((xa + xb) * (yb - ya)) := by
  have hfin : 2 * d * xa * (yb - ya) + m * (xb - xa) * ((yb - ya) * (yb - ya)) = d * ((xa + xb) * (yb - ya)) := by
    by_cases hz : yb - ya = 0
    · rw [hz]; simp
    · have := hm hz
      have e : m * (xb - xa) * ((yb - ya) * (yb - ya)) = ((yb - ya) * m) * ((xb - xa) * (yb - ya)) := by grind
      rw [e, ← this]; grind
  rcases Int.le_total ya yb with hud | hud
  · have key : ∀ J : Nat, sumF (fun j => cx ya yb ((j : Int) - M) * (2 * d * xa + m * (xb - xa) * (2 * ((j : Int) - M - ya) + 1))) J = 2 * d * xa * (max 0 (min (yb - ya) ((J : Int) - M - ya))) + m * (xb - xa) * ((max 0 (min (yb - ya) ((J : Int) - M - ya))) * (max 0 (min (yb - ya) ((J : Int) - M - ya)))) := by
      intro J
      induction J with
      | zero =>
        rw [show max 0 (min (yb - ya) (((0 : Nat) : Int) - M - ya)) = 0 from by omega]
        show (0 : Int) = _
        simp
      | succ J ih =>
        show sumF _ J + cx ya yb ((J : Int) - M) * (2 * d * xa + m * (xb - xa) * (2 * ((J : Int) - M - ya) + 1)) = _
        rw [ih]
        unfold cx
        by_cases g : ya ≤ (J : Int) - M ∧ (J : Int) - M < yb
        · rw [if_pos g, show max 0 (min (yb - ya) ((J : Int) - M - ya)) = (J : Int) - M - ya from by omega, show max 0 (min (yb - ya) (((J + 1 : Nat) : Int) - M - ya)) = (J : Int) - M - ya + 1 from by omega]
          generalize (J : Int) - M - ya = k
          grind
        · rw [if_neg g, if_neg (by omega), show max 0 (min (yb - ya) (((J + 1 : Nat) : Int) - M - ya)) = max 0 (min (yb - ya) ((J : Int) - M - ya)) from by omega]
          simp
    rw [key, show max 0 (min (yb - ya) ((((2 * M).toNat : Nat) : Int) - M - ya)) = yb - ya from by omega]
    exact hfin
  · have key : ∀ J : Nat, sumF (fun j => cx ya yb ((j : Int) - M) * (2 * d * xa + m * (xb - xa) * (2 * ((j : Int) - M - ya) + 1))) J = (2 * d * xa * (yb - ya) + m * (xb - xa) * ((yb - ya) * (yb - ya))) - (2 * d * xa * (min 0 (max (yb - ya) ((J : Int) - M - ya))) + m * (xb - xa) * ((min 0 (max (yb - ya) ((J : Int) - M - ya))) * (min 0 (max (yb - ya) ((J : Int) - M - ya))))) := by
      intro J
      induction J with
      | zero =>
        rw [show min 0 (max (yb - ya) (((0 : Nat) : Int) - M - ya)) = yb - ya from by omega]
        show (0 : Int) = _
        omega
      | succ J ih =>
        show sumF _ J + cx ya yb ((J : Int) - M) * (2 * d * xa + m * (xb - xa) * (2 * ((J : Int) - M - ya) + 1)) = _
        rw [ih]
        unfold cx
        by_cases g : yb ≤ (J : Int) - M ∧ (J : Int) - M < ya
        · rw [if_neg (by omega), if_pos g, show min 0 (max (yb - ya) ((J : Int) - M - ya)) = (J : Int) - M - ya from by omega, show min 0 (max (yb - ya) (((J + 1 : Nat) : Int) - M - ya)) = (J : Int) - M - ya + 1 from by omega]
          generalize (J : Int) - M - ya = k
          grind
        · rw [if_neg (by omega), if_neg g, show min 0 (max (yb - ya) (((J + 1 : Nat) : Int) - M - ya)) = min 0 (max (yb - ya) ((J : Int) - M - ya)) from by omega]
          simp
    rw [key, show min 0 (max (yb - ya) ((((2 * M).toNat : Nat) : Int) - M - ya)) = 0 from by omega, hfin]
    simp
theorem area_alt (hP : Way P n) : sumF (fun i => crP (P i) (P (i + 1))) n = sumF (fun i => ((P i).1 + (P (i + 1)).1) * ((P (i + 1)).2 - (P i).2)) n := by
  have e : sumF (fun i => ((P i).1 + (P (i + 1)).1) * ((P (i + 1)).2 - (P i).2)) n = sumF (fun i => crP (P i) (P (i + 1)) + ((P (i + 1)).1 * (P (i + 1)).2 - (P i).1 * (P i).2)) n := sum_congr (fun i _ => by unfold crP Pt.cr; grind)
  rw [e, sum_plus, sum_steps (fun i => (P i).1 * (P i).2)]
  have := hP.per 0
  rw [Nat.zero_add] at this
  rw [this]; omega
theorem sum_nn {F : Nat → Int} : ∀ {n : Nat}, (∀ i, i < n → 0 ≤ F i) → 0 ≤ sumF F n
  | 0, _ => by show (0 : Int) ≤ 0; omega
  | n + 1, h => by show 0 ≤ sumF F n + F n; have := sum_nn (n := n) (fun i hi => h i (by omega)); have := h n (by omega); omega
theorem sum_pos {F : Nat → Int} : ∀ {n k : Nat}, k < n → 0 < F k → (∀ i, i < n → 0 ≤ F i) → 0 < sumF F n
  | 0, _, h, _, _ => by omega
  | n + 1, k, hk, hp, h => by
    show 0 < sumF F n + F n
    have h0 := sum_nn (n := n) (fun i hi => h i (by omega))
    by_cases e : k = n
    · subst e; omega
    · have := sum_pos (n := n) (k := k) (by omega) hp (fun i hi => h i (by omega))
      have := h n (by omega); omega
/-- where the sides cross a row between two whole heights -/
def xr (P : Nat → P2) (d y : Int) (i : Nat) : Int := 2 * d * (P i).1 + d / ((P (i + 1)).2 - (P i).2) * ((P (i + 1)).1 - (P i).1) * (2 * (y - (P i).2) + 1)
theorem row_of {d : Int} (hd : 0 < d) (hm : ∀ i, i < n → (P (i + 1)).2 - (P i).2 ≠ 0 → d = ((P (i + 1)).2 - (P i).2) * (d / ((P (i + 1)).2 - (P i).2))) (y : Int) :
    Row (scW (2 * d) P) n (d * (2 * y + 1)) (xr P d y) := by
  refine ⟨fun i => ?_, fun i hi he => ?_⟩
  · intro g
    have g' : d * (2 * (P i).2) = d * (2 * y + 1) := by rw [← g]; unfold scW scP; simp only; grind
    have := Int.eq_of_mul_eq_mul_left (by omega) g'
    omega
  · rw [ep_row hd] at he
    have hne : (P (i + 1)).2 - (P i).2 ≠ 0 := by
      intro g
      apply he
      unfold cx
      rw [if_neg (by omega), if_neg (by omega)]
    have h := hm i hi hne
    unfold xr
    generalize d / ((P (i + 1)).2 - (P i).2) = m at *
    unfold crs Pt.cr scW scP
    simp only
    have e : (2 * d * (P (i + 1)).1 - 2 * d * (P i).1) * (d * (2 * y + 1) - 2 * d * (P i).2) - (2 * d * (P (i + 1)).2 - 2 * d * (P i).2) * (2 * d * (P i).1 + m * ((P (i + 1)).1 - (P i).1) * (2 * (y - (P i).2) + 1) - 2 * d * (P i).1) = 2 * d * ((P (i + 1)).1 - (P i).1) * (2 * (y - (P i).2) + 1) * (d - ((P (i + 1)).2 - (P i).2) * m) := by grind
    rw [e, ← h, Int.sub_self, Int.mul_zero]
/-- THE AREA of a simple closed way has the sign of what lies to its left -/
theorem way_area (hP : Way P n) {M : Int} (hM : ∀ i, -M ≤ (P i).2 ∧ (P i).2 ≤ M) : ∃ d : Int, 0 < d ∧ (lw (scW (2 * d) P) n 0 = 0 ∨ lw (scW (2 * d) P) n 0 = 1) ∧ 0 < (2 * lw (scW (2 * d) P) n 0 - 1) * sumF (fun i => crP (P i) (P (i + 1))) n := by
  obtain ⟨d, hd, hex⟩ := common_of P n
  have hm : ∀ i, i < n → (P (i + 1)).2 - (P i).2 ≠ 0 → d = ((P (i + 1)).2 - (P i).2) * (d / ((P (i + 1)).2 - (P i).2)) := fun i hi hne => by
    obtain ⟨m, h⟩ := hex i hi hne
    have : d / ((P (i + 1)).2 - (P i).2) = m := by rw [h]; exact Int.mul_ediv_cancel_left _ hne
    rw [this]; exact h
  have hW := way_sc (show 0 < 2 * d by omega) hP
  have hM0 := hM 0
  obtain ⟨k, hk, hne⟩ := not_flat hP
  have hsum : d * sumF (fun i => crP (P i) (P (i + 1))) n = sumF (fun j => sumF (fun i => cx (P i).2 (P (i + 1)).2 ((j : Int) - M) * xr P d ((j : Int) - M) i) n) (2 * M).toNat := by
    rw [area_alt hP, ← sum_times]
    rw [← sum_fubini (fun i j => cx (P i).2 (P (i + 1)).2 ((j : Int) - M) * xr P d ((j : Int) - M) i)]
    exact sum_congr (fun i hi => (side_sum (M := M) (by omega) (hM i) (hM (i + 1)) (hm i hi)).symm)
  have hrow : ∀ j : Nat, (∃ k, k < n ∧ cx (P k).2 (P (k + 1)).2 ((j : Int) - M) ≠ 0) → (lw (scW (2 * d) P) n 0 = 0 ∨ lw (scW (2 * d) P) n 0 = 1) ∧ 0 < (2 * lw (scW (2 * d) P) n 0 - 1) * sumF (fun i => cx (P i).2 (P (i + 1)).2 ((j : Int) - M) * xr P d ((j : Int) - M) i) n := fun j ⟨k, hk, he⟩ => by
    have hR := row_of hd hm ((j : Int) - M)
    have := row_sum hR hW hk (by rw [ep_row hd]; exact he)
    simp only [ep_row hd] at this
    exact this
  have hj : cx (P k).2 (P (k + 1)).2 ((((min (P k).2 (P (k + 1)).2 + M).toNat : Nat) : Int) - M) ≠ 0 := by
    have := hM k
    have := hM (k + 1)
    rw [show ((((min (P k).2 (P (k + 1)).2 + M).toNat : Nat) : Int) - M) = min (P k).2 (P (k + 1)).2 from by omega]
    unfold cx
    rcases Int.lt_or_gt_of_ne hne with g | g
    · rw [if_neg (by omega), if_pos (by omega)]; decide
    · rw [if_pos (by omega)]; decide
  have h1 := hrow _ ⟨k, hk, hj⟩
  refine ⟨d, hd, h1.1, ?_⟩
  have hpos : 0 < (2 * lw (scW (2 * d) P) n 0 - 1) * (d * sumF (fun i => crP (P i) (P (i + 1))) n) := by
    rw [hsum, ← sum_times]
    refine sum_pos (k := (min (P k).2 (P (k + 1)).2 + M).toNat) ?_ h1.2 (fun j hj => ?_)
    · have := hM k
      have := hM (k + 1)
      omega
    · by_cases g : ∃ k, k < n ∧ cx (P k).2 (P (k + 1)).2 ((j : Int) - M) ≠ 0
      · exact Int.le_of_lt (hrow j g).2
      · have : sumF (fun i => cx (P i).2 (P (i + 1)).2 ((j : Int) - M) * xr P d ((j : Int) - M) i) n = 0 := sum_none (fun i hi => by
          have : cx (P i).2 (P (i + 1)).2 ((j : Int) - M) = 0 := by
            apply Decidable.byContradiction
            intro q
            exact g ⟨i, hi, q⟩
          rw [this]; simp)
        rw [this]; simp
  refine spos_of (x := d) (by omega) ?_
  rw [show d * ((2 * lw (scW (2 * d) P) n 0 - 1) * sumF (fun i => crP (P i) (P (i + 1))) n) = (2 * lw (scW (2 * d) P) n 0 - 1) * (d * sumF (fun i => crP (P i) (P (i + 1))) n) from by grind]
  exact hpos
/-- the area of a valid polygon is not 0 -/
theorem area_ne {L : List P2} (h : polyV L = true) : areaL L ≠ 0 := by
  have hok : okP L = true := (polyV_parts h).1
  have hl := okP_len hok
  have hb : ∀ i, -10000 ≤ (cy L i).2 ∧ (cy L i).2 ≤ 10000 := fun i => by
    have := pvP_true (okP_at hok i)
    omega
  obtain ⟨d, -, -, h3⟩ := way_area (way_of hl.1 (polyV_parts h).2) hb
  intro g
  unfold areaL at g
  rw [g] at h3
  simp at h3
end Poly
