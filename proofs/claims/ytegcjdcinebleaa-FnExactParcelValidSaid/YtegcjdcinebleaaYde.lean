/-
  Areas: the corners the other way round, begun elsewhere, turned by a right angle, and cut into triangles. No function of the program is named.
-/
import Derived.Test.YtegcjdcinebleaaYm
namespace Poly
variable {L : List P2}

theorem back_len2 (L : List P2) : (backL L).length = L.length := by cases L <;> simp [backL]
theorem cy_back2 (L : List P2) (h : 0 < L.length) (i : Nat) : cy (backL L) i = cy L (L.length - i % L.length) := by
  unfold cy
  rw [back_len2]
  have hm := Nat.mod_lt i h
  generalize i % L.length = m at *
  cases L with
  | nil => simp at h
  | cons a l =>
    rcases Nat.eq_zero_or_pos m with rfl | hp
    · simp [backL]
    · have h1 : (a :: l).length - m < (a :: l).length := by simp at hm ⊢; omega
      rw [Nat.mod_eq_of_lt h1, getD_at h1, getD_at (by rw [back_len2]; exact hm)]
      obtain ⟨q, rfl⟩ : ∃ q, m = q + 1 := ⟨m - 1, by omega⟩
      simp only [backL, List.getElem_cons_succ]
      rw [List.getElem_reverse]
      have e : (a :: l).length - (q + 1) = (l.length - 1 - q) + 1 := by simp at hm ⊢; omega
      simp only [e, List.getElem_cons_succ]

/-- the corners with the one numbered k first -/
def begL (L : List P2) (k : Nat) : List P2 := L.drop k ++ L.take k
theorem beg_len {k : Nat} (h : k ≤ L.length) : (begL L k).length = L.length := by unfold begL; rw [List.length_append, List.length_drop, List.length_take]; omega
theorem cy_beg {k : Nat} (h : k < L.length) (i : Nat) : cy (begL L k) i = cy L (i + k) := by
  unfold cy
  rw [beg_len (by omega)]
  have hm := Nat.mod_lt i (show 0 < L.length by omega)
  rw [Nat.add_mod i k, Nat.mod_eq_of_lt h]
  generalize i % L.length = m at *
  rw [getD_at (by rw [beg_len (by omega)]; exact hm)]
  unfold begL
  by_cases hlt : m + k < L.length
  · rw [Nat.mod_eq_of_lt hlt, getD_at hlt, List.getElem_append_left (by rw [List.length_drop]; omega), List.getElem_drop]
    congr 1
    omega
  · have e : (m + k) % L.length = m + k - L.length := by rw [Nat.mod_eq_sub_mod (by omega), Nat.mod_eq_of_lt (by omega)]
    rw [e, getD_at (by omega), List.getElem_append_right (by rw [List.length_drop]; omega), List.getElem_take]
    congr 1
    rw [List.length_drop]
    omega
def rotP (p : P2) : P2 := (0 - p.2, p.1)
def rotL (L : List P2) : List P2 := L.map rotP
theorem rot_len (L : List P2) : (rotL L).length = L.length := by unfold rotL; simp
theorem cy_rot (h : 0 < L.length) (i : Nat) : cy (rotL L) i = rotP (cy L i) := by
  unfold cy
  rw [rot_len]
  have hm := Nat.mod_lt i h
  rw [getD_at (by rw [rot_len]; exact hm), getD_at hm]
  unfold rotL
  simp

theorem sum_congr {f g : Nat → Int} : ∀ {n : Nat}, (∀ i, i < n → f i = g i) → sumF f n = sumF g n
  | 0, _ => rfl
  | n + 1, h => by unfold sumF; rw [sum_congr (fun i hi => h i (by omega)), h n (by omega)]
theorem sum_head (g : Nat → Int) : ∀ n : Nat, sumF g (n + 1) = g 0 + sumF (fun i => g (i + 1)) n
  | 0 => by simp [sumF]
  | n + 1 => by
    have h := sum_head g n
    have e1 : sumF g (n + 1 + 1) = sumF g (n + 1) + g (n + 1) := rfl
    have e2 : sumF (fun i => g (i + 1)) (n + 1) = sumF (fun i => g (i + 1)) n + g (n + 1) := rfl
    omega
theorem sum_neg (g : Nat → Int) : ∀ n : Nat, sumF (fun i => - g i) n = - sumF g n
  | 0 => by simp [sumF]
  | n + 1 => by unfold sumF; rw [sum_neg g n]; omega
theorem sum_rev (g : Nat → Int) : ∀ n : Nat, sumF (fun i => g (n - 1 - i)) n = sumF g n
  | 0 => rfl
  | n + 1 => by
    rw [sum_head, sum_congr (g := fun i => g (n - 1 - i)) (fun i hi => by show g _ = g _; congr 1; omega), sum_rev g n]
    show g (n + 1 - 1 - 0) + sumF g n = sumF g n + g n
    rw [show n + 1 - 1 - 0 = n by omega]
    omega
theorem sum_shift {g : Nat → Int} {n : Nat} (h : ∀ i, g (i + n) = g i) : ∀ k : Nat, sumF (fun i => g (i + k)) n = sumF g n
  | 0 => rfl
  | k + 1 => by
    have h1 := sum_shift h k
    have h2 := sum_head (fun i => g (i + k)) n
    have h3 : sumF (fun i => g (i + k)) (n + 1) = sumF (fun i => g (i + k)) n + g (n + k) := rfl
    have h4 : g (n + k) = g (0 + k) := by rw [Nat.add_comm n k, h k, Nat.zero_add]
    have h5 : sumF (fun i => g (i + 1 + k)) n = sumF (fun i => g (i + (k + 1))) n := sum_congr (fun i _ => by congr 1; omega)
    omega

theorem area_back (h : 0 < L.length) : areaL (backL L) = - areaL L := by
  unfold areaL
  rw [back_len2, ← sum_neg, ← sum_rev (fun i => - crP (cy L i) (cy L (i + 1)))]
  refine sum_congr (fun i hi => ?_)
  rw [cy_back2 L h, cy_back2 L h, Nat.mod_eq_of_lt hi]
  have e : cy L (L.length - (i + 1) % L.length) = cy L (L.length - 1 - i) := by
    by_cases hl : i + 1 = L.length
    · rw [hl, Nat.mod_self, show L.length - 1 - i = 0 by omega]
      have := cy_add (L := L) 0
      rw [Nat.zero_add] at this
      exact this
    · rw [Nat.mod_eq_of_lt (by omega), show L.length - (i + 1) = L.length - 1 - i by omega]
  rw [e, show L.length - i = L.length - 1 - i + 1 by omega]
  unfold crP Pt.cr
  simp only [Int.mul_comm]
  omega
theorem area_beg {k : Nat} (h : k < L.length) : areaL (begL L k) = areaL L := by
  unfold areaL
  rw [beg_len (by omega)]
  rw [← sum_shift (g := fun i => crP (cy L i) (cy L (i + 1))) (n := L.length) (fun i => by
    show crP (cy L (i + L.length)) (cy L (i + L.length + 1)) = _
    rw [show i + L.length + 1 = i + 1 + L.length by omega, cy_add, cy_add]) k]
  refine sum_congr (fun i _ => ?_)
  rw [cy_beg h, cy_beg h, show i + 1 + k = i + k + 1 by omega]
theorem area_rot (h : 0 < L.length) : areaL (rotL L) = areaL L := by
  unfold areaL
  rw [rot_len]
  refine sum_congr (fun i _ => ?_)
  rw [cy_rot h, cy_rot h]
  unfold crP Pt.cr rotP
  simp only [Int.zero_sub, Int.neg_mul, Int.mul_neg]
  rw [Int.mul_comm (cy L i).2]
  omega
/-- the areas of the first triangles -/
def fanA (L : List P2) (i : Nat) : Int := sumF (fun i => crP (cy L i) (cy L (i + 1))) i + crP (cy L i) (cy L 0)
theorem crP_swap (a b : P2) : crP a b = - crP b a := by
  unfold crP Pt.cr
  rw [Int.mul_comm a.1, Int.mul_comm a.2]
  omega
theorem fan_one : fanA L 1 = 0 := by
  unfold fanA sumF sumF
  have := crP_swap (cy L 1) (cy L 0)
  simp only [Nat.zero_add]
  omega
theorem area_tri (a b c : P2) : areaL [a, b, c] = crP a b + crP b c + crP c a := by
  unfold areaL
  show sumF _ 3 = _
  simp [sumF, cy]
theorem fan_next (i : Nat) : fanA L (i + 1) = fanA L i + areaL [cy L 0, cy L i, cy L (i + 1)] := by
  rw [area_tri]
  have := crP_swap (cy L 0) (cy L i)
  unfold fanA
  simp only [sumF]
  omega
theorem fan_all (h : 0 < L.length) : fanA L (L.length - 1) = areaL L := by
  obtain ⟨n, hn⟩ : ∃ n, L.length = n + 1 := ⟨L.length - 1, by omega⟩
  have e : cy L (n + 1) = cy L 0 := by
    have := cy_add (L := L) 0
    rw [Nat.zero_add, hn] at this
    exact this
  unfold fanA areaL
  rw [hn, Nat.add_sub_cancel]
  simp only [sumF]
  rw [e]
theorem okP_beg (h : okP L = true) {k : Nat} (hk : k < L.length) : okP (begL L k) = true := by
  have hl := okP_len h
  refine okP_of (by rw [beg_len (by omega)]; exact hl.1) (by rw [beg_len (by omega)]; exact hl.2) (fun i _ => ?_)
  rw [cy_beg hk]
  exact okP_at h _
theorem okP_rot (h : okP L = true) : okP (rotL L) = true := by
  have hl := okP_len h
  refine okP_of (by rw [rot_len]; exact hl.1) (by rw [rot_len]; exact hl.2) (fun i _ => ?_)
  rw [cy_rot (by omega)]
  have := pvP_true (okP_at h i)
  unfold pvP rotP
  exact Pt.pv_in (by simp; omega) (by simp; omega) (by simp; omega) (by simp; omega)
theorem okP_tri (h : okP L = true) (i j k : Nat) : okP [cy L i, cy L j, cy L k] = true := by
  refine okP_of (by simp) (by simp) (fun q hq => ?_)
  have hq' : q < 3 := hq
  have : q = 0 ∨ q = 1 ∨ q = 2 := by omega
  rcases this with rfl | rfl | rfl <;> simp only [cy] <;> exact okP_at h _
theorem fan_bd (h : okP L = true) (i : Nat) (hi : i ≤ 12) : -2600000000 ≤ fanA L i ∧ fanA L i ≤ 2600000000 := by
  have h1 := area_to h i hi
  have h2 := crP_bd (okP_at h i) (okP_at h 0)
  unfold fanA
  omega
end Poly
