/-
  Where a point lies, by how often a simple closed way winds around it. No function of the program is named.
-/
import Derived.Test.YtegcjdcinebleaaYje
namespace Poly

theorem chi_sc {D : Int} (h : 0 < D) (u v : P2) : chi (scP D u) (scP D v) = chi u v := by
  have e : cv (scP D u) (scP D v) = D * D * cv u v := by unfold cv scP; grind
  have hd := mul_sp h h
  have s1 : (D * u.2 ≤ 0 ↔ u.2 ≤ 0) := by have := mul_le_iff (a := u.2) (b := 0) h; simpa using this
  have s2 : (D * v.2 ≤ 0 ↔ v.2 ≤ 0) := by have := mul_le_iff (a := v.2) (b := 0) h; simpa using this
  have s3 : (0 < D * D * cv u v ↔ 0 < cv u v) := ⟨fun g => spos_of (x := D * D) (by omega) g, fun g => mul_sp hd g⟩
  have s4 : (D * D * cv u v < 0 ↔ cv u v < 0) := ⟨fun g => by have := spos_of (x := D * D) (y := - cv u v) (by omega) (by rw [Int.mul_neg]; omega); omega, fun g => mul_sn hd g⟩
  unfold chi
  rw [e]
  have f1 : (scP D u).2 = D * u.2 := rfl
  have f2 : (scP D v).2 = D * v.2 := rfl
  rw [f1, f2]
  generalize D * D * cv u v = c at *
  generalize D * u.2 = a at *
  generalize D * v.2 = b at *
  repeat' split
  all_goals omega
theorem sb_sc (D : Int) (a b : P2) : sb (scP D a) (scP D b) = scP D (sb a b) := by unfold sb scP; simp only; rw [Int.mul_sub, Int.mul_sub]
theorem psi_sc {D : Int} (h : 0 < D) (u : P2) : psi (scP D u) = psi u := by
  have s1 : (D * u.2 ≤ 0 ↔ u.2 ≤ 0) := by have := mul_le_iff (a := u.2) (b := 0) h; simpa using this
  have s2 : (0 ≤ D * u.2 ↔ 0 ≤ u.2) := by have := mul_le_iff (a := 0) (b := u.2) h; simpa using this
  have s3 : (0 ≤ D * u.1 ↔ 0 ≤ u.1) := by have := mul_le_iff (a := 0) (b := u.1) h; simpa using this
  unfold psi scP
  simp only
  generalize D * u.2 = a at *
  generalize D * u.1 = b at *
  repeat' split
  all_goals omega
variable {P : Nat → P2} {n : Nat}
theorem lw_sc {D : Int} (h : 0 < D) (k : Nat) : lw (scW D P) n k = lw P n k := by
  have e1 : wn (scW D P) n (scW D P (k + 1)) = wn P n (P (k + 1)) := sum_congr (fun j _ => by unfold scW; rw [sb_sc, sb_sc, chi_sc h])
  have e2 : ∀ i, ed (scW D P) i = scP D (ed P i) := fun i => by unfold ed scW; rw [sb_sc]
  unfold lw
  rw [e1, e2, e2, chi_sc h, psi_sc h]
/-- whether a point lies on the way -/
def onW (P : Nat → P2) (n : Nat) (p : P2) : Prop := ∃ k, k < n ∧ onP (P k) (P (k + 1)) p = true
/-- a way that keeps its inside to the left -/
structure LW (P : Nat → P2) (n : Nat) : Prop where
  way : Way P n
  one : lw P n 0 = 1
theorem lw_of {L : List P2} (h : polyV L = true) (ha : 0 < areaL L) : LW (cy L) L.length := by
  have hok : okP L = true := (polyV_parts h).1
  have hl := okP_len hok
  have hb : ∀ i, -10000 ≤ (cy L i).2 ∧ (cy L i).2 ≤ 10000 := fun i => by
    have := pvP_true (okP_at hok i)
    omega
  have hw := way_of hl.1 (polyV_parts h).2
  obtain ⟨d, hd, h2, h3⟩ := way_area hw hb
  rw [lw_sc (by omega)] at h2 h3
  refine ⟨hw, ?_⟩
  have e : sumF (fun i => crP (cy L i) (cy L (i + 1))) L.length = areaL L := rfl
  rw [e] at h3
  rcases h2 with h2 | h2
  · rw [h2] at h3; omega
  · exact h2
theorem row_fine {d N : Int} (hd : 0 < d) (hN : 2 ≤ N) (hm : ∀ i, i < n → (P (i + 1)).2 - (P i).2 ≠ 0 → d = ((P (i + 1)).2 - (P i).2) * (d / ((P (i + 1)).2 - (P i).2))) (y : Int) :
    Row (scW (N * d) P) n (d * (N * y + 1)) (fun i => N * d * (P i).1 + d / ((P (i + 1)).2 - (P i).2) * ((P (i + 1)).1 - (P i).1) * (N * (y - (P i).2) + 1)) := by
  refine ⟨fun i => ?_, fun i hi he => ?_⟩
  · intro g
    have g' : d * (N * (P i).2) = d * (N * y + 1) := by rw [← g]; unfold scW scP; simp only; grind
    have g2 := Int.eq_of_mul_eq_mul_left (by omega) g'
    have g3 : N * ((P i).2 - y) = 1 := by rw [Int.mul_sub]; omega
    rcases Int.lt_trichotomy ((P i).2 - y) 0 with q | q | q
    · have := mul_sn (show 0 < N by omega) q; omega
    · rw [q] at g3; omega
    · have := mul_nn (show 0 ≤ N by omega) (show 0 ≤ (P i).2 - y - 1 by omega)
      rw [Int.mul_sub] at this; omega
  · have hne : (P (i + 1)).2 - (P i).2 ≠ 0 := by
      intro g
      have hb := ep_btw he 0
      unfold btw scW scP at hb
      simp only at hb
      rw [show (P (i + 1)).2 = (P i).2 from by omega] at hb
      omega
    have h := hm i hi hne
    show crs (scW (N * d) P i) (scW (N * d) P (i + 1)) (N * d * (P i).1 + d / ((P (i + 1)).2 - (P i).2) * ((P (i + 1)).1 - (P i).1) * (N * (y - (P i).2) + 1), d * (N * y + 1)) = 0
    generalize d / ((P (i + 1)).2 - (P i).2) = m at *
    unfold crs Pt.cr scW scP
    simp only
    have e : (N * d * (P (i + 1)).1 - N * d * (P i).1) * (d * (N * y + 1) - N * d * (P i).2) - (N * d * (P (i + 1)).2 - N * d * (P i).2) * (N * d * (P i).1 + m * ((P (i + 1)).1 - (P i).1) * (N * (y - (P i).2) + 1) - N * d * (P i).1) = N * d * ((P (i + 1)).1 - (P i).1) * (N * (y - (P i).2) + 1) * (d - ((P (i + 1)).2 - (P i).2) * m) := by grind
    rw [e, ← h, Int.sub_self, Int.mul_zero]
/-- A POINT that lies on no side is wound around once or not at all -/
theorem wn_off (hL : LW P n) {p : P2} (hp : ¬ onW P n p) : wn P n p = 0 ∨ wn P n p = 1 := by
  obtain ⟨d, hd, hex⟩ := common_of P n
  have hm : ∀ i, i < n → (P (i + 1)).2 - (P i).2 ≠ 0 → d = ((P (i + 1)).2 - (P i).2) * (d / ((P (i + 1)).2 - (P i).2)) := fun i hi hne => by
    obtain ⟨m, h⟩ := hex i hi hne
    have : d / ((P (i + 1)).2 - (P i).2) = m := by rw [h]; exact Int.mul_ediv_cancel_left _ hne
    rw [this]; exact h
  obtain ⟨B, hB⟩ := bound_of (fun i => (P (i + 1)).1 - (P i).1) n
  obtain ⟨N, hN⟩ : ∃ N : Int, N = max B 0 + 2 := ⟨_, rfl⟩
  have hR := row_fine (P := P) (n := n) hd (show 2 ≤ N by omega) hm p.2
  have hND := mul_sp (show 0 < N by omega) hd
  have hW := way_sc hND hL.way
  have e : wn (scW (N * d) P) n (N * d * p.1, d * (N * p.2 + 1)) = wn P n p := by
    refine sum_congr (fun i hi => ?_)
    have hb : (P (i + 1)).1 - (P i).1 ≤ B ∧ -B ≤ (P (i + 1)).1 - (P i).1 := hB i hi
    have hc : cv (sb (scW (N * d) P i) (N * d * p.1, d * (N * p.2 + 1))) (sb (scW (N * d) P (i + 1)) (N * d * p.1, d * (N * p.2 + 1))) = N * d * d * (N * crs (P i) (P (i + 1)) p + ((P (i + 1)).1 - (P i).1)) := by
      unfold cv sb scW scP crs Pt.cr; simp only; grind
    have k : ∀ a : Int, (N * d * a - d * (N * p.2 + 1) ≤ 0 ↔ a ≤ p.2) ∧ (0 < N * d * a - d * (N * p.2 + 1) ↔ p.2 < a) := by
      intro a
      have e1 : N * d * a - d * (N * p.2 + 1) = d * (N * (a - p.2) - 1) := by grind
      rw [e1]
      rcases Int.lt_or_le p.2 a with q | q
      · have h1 := mul_nn (show 0 ≤ N by omega) (show 0 ≤ a - p.2 - 1 by omega)
        rw [Int.mul_sub] at h1
        have := mul_sp hd (show 0 < N * (a - p.2) - 1 by omega)
        omega
      · have h1 := mul_np (show 0 ≤ N by omega) (show a - p.2 ≤ 0 by omega)
        have := mul_sn hd (show N * (a - p.2) - 1 < 0 by omega)
        omega
    have k1 := k (P i).2
    have k2 := k (P (i + 1)).2
    have hndd := mul_sp hND hd
    have hne : ((P i).2 ≤ p.2 ∧ p.2 < (P (i + 1)).2) ∨ ((P (i + 1)).2 ≤ p.2 ∧ p.2 < (P i).2) → crs (P i) (P (i + 1)) p ≠ 0 := fun g q => hp ⟨i, hi, line_on q (by omega)⟩
    have hs : crs (P i) (P (i + 1)) p ≠ 0 → (0 < N * d * d * (N * crs (P i) (P (i + 1)) p + ((P (i + 1)).1 - (P i).1)) ↔ 0 < crs (P i) (P (i + 1)) p) ∧ (N * d * d * (N * crs (P i) (P (i + 1)) p + ((P (i + 1)).1 - (P i).1)) < 0 ↔ crs (P i) (P (i + 1)) p < 0) := by
      intro hz
      rcases Int.lt_or_gt_of_ne hz with g | g
      · have h1 := mul_np (show 0 ≤ N by omega) (show crs (P i) (P (i + 1)) p + 1 ≤ 0 by omega)
        rw [Int.mul_add] at h1
        have := mul_sn hndd (show N * crs (P i) (P (i + 1)) p + ((P (i + 1)).1 - (P i).1) < 0 by omega)
        omega
      · have h1 := mul_nn (show 0 ≤ N by omega) (show 0 ≤ crs (P i) (P (i + 1)) p - 1 by omega)
        rw [Int.mul_sub] at h1
        have := mul_sp hndd (show 0 < N * crs (P i) (P (i + 1)) p + ((P (i + 1)).1 - (P i).1) by omega)
        omega
    unfold chi
    rw [hc, cv_sub]
    have f1 : (sb (scW (N * d) P i) (N * d * p.1, d * (N * p.2 + 1))).2 = N * d * (P i).2 - d * (N * p.2 + 1) := rfl
    have f2 : (sb (scW (N * d) P (i + 1)) (N * d * p.1, d * (N * p.2 + 1))).2 = N * d * (P (i + 1)).2 - d * (N * p.2 + 1) := rfl
    have f3 : (sb (P i) p).2 = (P i).2 - p.2 := rfl
    have f4 : (sb (P (i + 1)) p).2 = (P (i + 1)).2 - p.2 := rfl
    rw [f1, f2, f3, f4]
    generalize N * d * d * (N * crs (P i) (P (i + 1)) p + ((P (i + 1)).1 - (P i).1)) = c at *
    generalize N * d * (P i).2 - d * (N * p.2 + 1) = a at *
    generalize N * d * (P (i + 1)).2 - d * (N * p.2 + 1) = b at *
    generalize crs (P i) (P (i + 1)) p = q at *
    by_cases hu : (P i).2 ≤ p.2 ∧ p.2 < (P (i + 1)).2
    · have := hs (hne (.inl hu))
      rw [if_pos (show a ≤ 0 ∧ 0 < b by omega), if_pos (show (P i).2 - p.2 ≤ 0 ∧ 0 < (P (i + 1)).2 - p.2 by omega)]
      repeat' split
      all_goals omega
    · by_cases hv : (P (i + 1)).2 ≤ p.2 ∧ p.2 < (P i).2
      · have := hs (hne (.inr hv))
        rw [if_neg (show ¬ (a ≤ 0 ∧ 0 < b) by omega), if_neg (show ¬ ((P i).2 - p.2 ≤ 0 ∧ 0 < (P (i + 1)).2 - p.2) by omega), if_pos (show b ≤ 0 ∧ 0 < a by omega), if_pos (show (P (i + 1)).2 - p.2 ≤ 0 ∧ 0 < (P i).2 - p.2 by omega)]
        repeat' split
        all_goals omega
      · rw [if_neg (show ¬ (a ≤ 0 ∧ 0 < b) by omega), if_neg (show ¬ ((P i).2 - p.2 ≤ 0 ∧ 0 < (P (i + 1)).2 - p.2) by omega), if_neg (show ¬ (b ≤ 0 ∧ 0 < a) by omega), if_neg (show ¬ ((P (i + 1)).2 - p.2 ≤ 0 ∧ 0 < (P i).2 - p.2) by omega)]
  have hone : lw (scW (N * d) P) n 0 = 1 := by rw [lw_sc hND]; exact hL.one
  rw [← e]
  obtain ⟨C, hC, hI⟩ := inv_all hR hW
  rcases Int.le_total (N * d * p.1) C with g | g
  · rcases hI _ g with ⟨q, -, -⟩ | ⟨-, q, -⟩
    · exact .inl q
    · rw [hone] at q; omega
  · left
    rw [hR.wn]
    exact sum_none (fun i hi => by have := (hC i hi).1; rw [if_neg (by omega)])
end Poly
