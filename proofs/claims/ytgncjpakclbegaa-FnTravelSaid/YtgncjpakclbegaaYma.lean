/-
  Polygons as lists of points, with no Go in sight: which are valid, which sides clash, areas, points on sides, what lies inside. No function of the program is named.
  Areas: the corners the other way round, begun elsewhere, turned by a right angle, and cut into triangles. No function of the program is named.
  Places do not depend on the corners' order: simple polygons and places by the corners begun elsewhere and the other way round; what lies west of all corners. No function of the program is named.
  Parcels as lists of points: which are parcels, how they are split, which sides they have in common. No function of the program is named.
-/
import Derived.Test.YtgncjpakclbegaaPMath
set_option linter.unusedSimpArgs false
set_option linter.unusedVariables false
namespace Poly

abbrev P2 := Int × Int
/-- the corner with a number, counted round and round -/
def cy (L : List P2) (i : Nat) : P2 := L.getD (i % L.length) (0, 0)
def pvP (p : P2) : Bool := Pt.pv p.1 p.2
def okP (L : List P2) : Bool := decide (3 ≤ L.length ∧ L.length ≤ 12) && L.all pvP
def onP (a b c : P2) : Bool := Pt.onB a.1 a.2 b.1 b.2 c.1 c.2
def crs (a b c : P2) : Int := Pt.cr (b.1 - a.1) (b.2 - a.2) (c.1 - a.1) (c.2 - a.2)
def sgn (x : Int) : Int := if x < 0 then -1 else if 0 < x then 1 else 0
def sd (a b c : P2) : Int := sgn (crs a b c)
/-- both ends of the second side lie on two sides of the first one -/
def parts (a b c d : P2) : Bool := decide (sd a b c * sd a b d < 0)
def touch (a b c d : P2) : Bool := onP a b c || onP a b d || onP c d a || onP c d b
def meet (a b c d : P2) : Bool := touch a b c d || (parts a b c d && parts c d a b)
/-- the sides i < k clash -/
def clash (L : List P2) (i k : Nat) : Bool :=
  if k = i + 1 then onP (cy L i) (cy L (i + 1)) (cy L (k + 1)) || onP (cy L k) (cy L (k + 1)) (cy L i)
  else if (k + 1) % L.length = i then onP (cy L k) (cy L (k + 1)) (cy L (i + 1)) || onP (cy L i) (cy L (i + 1)) (cy L k)
  else meet (cy L i) (cy L (i + 1)) (cy L k) (cy L (k + 1))
def simple (L : List P2) : Bool := (List.range L.length).all fun i => (List.range L.length).all fun k => !(decide (i < k)) || !(clash L i k)
def polyV (L : List P2) : Bool := okP L && simple L
def sumF (f : Nat → Int) : Nat → Int
  | 0 => 0
  | k + 1 => sumF f k + f k
def crP (a b : P2) : Int := Pt.cr a.1 a.2 b.1 b.2
def areaL (L : List P2) : Int := sumF (fun i => crP (cy L i) (cy L (i + 1))) L.length
def gapP (a b : P2) : Int := (Int.gcd (b.1 - a.1) (b.2 - a.2) : Int)
def edgeL (L : List P2) : Int := sumF (fun i => gapP (cy L i) (cy L (i + 1))) L.length
def insideL (L : List P2) : Int := ((areaL L).natAbs - edgeL L + 2).tdiv 2
/-- the way from p to the east crosses the side from a to b -/
def east (a b p : P2) : Bool := if a.2 ≤ p.2 ∧ p.2 < b.2 then decide (0 < crs a b p) else if b.2 ≤ p.2 ∧ p.2 < a.2 then decide (crs a b p < 0) else false
def oddF (f : Nat → Bool) : Nat → Bool
  | 0 => false
  | k + 1 => xor (oddF f k) (f k)
def anyF (f : Nat → Bool) : Nat → Bool
  | 0 => false
  | k + 1 => anyF f k || f k
def onL (L : List P2) (p : P2) : Bool := anyF (fun i => onP (cy L i) (cy L (i + 1)) p) L.length
def oddL (L : List P2) (p : P2) : Bool := oddF (fun i => east (cy L i) (cy L (i + 1)) p) L.length
def placeL (L : List P2) (p : P2) : Int := if onL L p then 0 else if oddL L p then 1 else -1
def backL : List P2 → List P2
  | [] => []
  | a :: l => a :: l.reverse
def turnBad (L : List P2) (i : Nat) : Bool := decide (sd (cy L i) (cy L (i + 1)) (cy L (i + 2)) * areaL L < 0)
def convexL (L : List P2) : Bool := polyV L && !(anyF (turnBad L) L.length)

variable {L : List P2}
theorem getD_at {i : Nat} (h : i < L.length) : L.getD i (0, 0) = L[i] := by rw [List.getD_eq_getElem?_getD, List.getElem?_eq_getElem h]; rfl
theorem okP_len (h : okP L = true) : 3 ≤ L.length ∧ L.length ≤ 12 := by unfold okP at h; simp at h; exact h.1
theorem okP_at (h : okP L = true) (i : Nat) : pvP (cy L i) = true := by
  have hl := okP_len h
  unfold okP at h
  simp only [Bool.and_eq_true, List.all_eq_true] at h
  unfold cy
  have hi : i % L.length < L.length := Nat.mod_lt _ (by omega)
  rw [getD_at hi]
  exact h.2 _ (List.getElem_mem hi)
theorem cy_lt {i : Nat} (h : i < L.length) : L[i]? = some (cy L i) := by
  unfold cy; rw [Nat.mod_eq_of_lt h, getD_at h, List.getElem?_eq_getElem h]
theorem cy_add (i : Nat) : cy L (i + L.length) = cy L i := by unfold cy; rw [Nat.add_mod_right]
theorem cy_mod (i : Nat) : cy L (i % L.length) = cy L i := by unfold cy; rw [Nat.mod_mod]
theorem cy_wrap {i : Nat} (h : i < L.length) : cy L (i + 1) = cy L (if i + 1 = L.length then 0 else i + 1) := by
  split
  · next e => rw [e]; have := cy_add (L := L) 0; rw [Nat.zero_add] at this; exact this
  · rfl
theorem okP_of (h1 : 3 ≤ L.length) (h2 : L.length ≤ 12) (h : ∀ i, i < L.length → pvP (cy L i) = true) : okP L = true := by
  unfold okP
  simp only [Bool.and_eq_true, List.all_eq_true, decide_eq_true_eq]
  refine ⟨⟨h1, h2⟩, fun p hp => ?_⟩
  obtain ⟨i, hi, rfl⟩ := List.mem_iff_getElem.1 hp
  have := h i hi
  unfold cy at this
  rwa [Nat.mod_eq_of_lt hi, getD_at hi] at this
theorem okP_no {i : Nat} (hi : i < L.length) (h : pvP (cy L i) = false) : okP L = false := by
  cases e : okP L with
  | false => rfl
  | true => rw [okP_at e i] at h; cases h
theorem okP_short (h : ¬ (3 ≤ L.length ∧ L.length ≤ 12)) : okP L = false := by
  unfold okP; rw [decide_eq_false h]; rfl

theorem simple_no {i k : Nat} (hi : i < k) (hk : k < L.length) (h : clash L i k = true) : simple L = false := by
  cases e : simple L with
  | false => rfl
  | true =>
    unfold simple at e
    simp only [List.all_eq_true, List.mem_range] at e
    have := e i (by omega) k hk
    simp [hi, h] at this
theorem simple_of (h : ∀ i k, i < k → k < L.length → clash L i k = false) : simple L = true := by
  unfold simple
  simp only [List.all_eq_true, List.mem_range]
  intro i hi k hk
  by_cases hik : i < k
  · rw [h i k hik hk]; simp
  · simp [hik]
theorem simple_at (h : simple L = true) {i k : Nat} (hi : i < k) (hk : k < L.length) : clash L i k = false := by
  cases e : clash L i k with
  | false => rfl
  | true => rw [simple_no hi hk e] at h; cases h

theorem anyF_of {f : Nat → Bool} {n i : Nat} (hi : i < n) (h : f i = true) : anyF f n = true := by
  induction n with
  | zero => omega
  | succ n ih =>
    unfold anyF
    by_cases e : i = n
    · subst e; rw [h]; simp
    · rw [ih (by omega)]; rfl
theorem anyF_no {f : Nat → Bool} {n : Nat} (h : anyF f n = false) {i : Nat} (hi : i < n) : f i = false := by
  cases e : f i with
  | false => rfl
  | true => rw [anyF_of hi e] at h; cases h
theorem anyF_false {f : Nat → Bool} {n : Nat} (h : ∀ i, i < n → f i = false) : anyF f n = false := by
  induction n with
  | zero => rfl
  | succ n ih => unfold anyF; rw [ih (fun i hi => h i (by omega)), h n (by omega)]; rfl
theorem anyF_get {f : Nat → Bool} {n : Nat} (h : anyF f n = true) : ∃ i, i < n ∧ f i = true := by
  induction n with
  | zero => cases h
  | succ n ih =>
    unfold anyF at h
    cases e : f n with
    | true => exact ⟨n, by omega, e⟩
    | false => rw [e, Bool.or_false] at h; obtain ⟨i, hi, hf⟩ := ih h; exact ⟨i, by omega, hf⟩

theorem pvP_true {p : P2} (h : pvP p = true) : -10000 ≤ p.1 ∧ p.1 ≤ 10000 ∧ -10000 ≤ p.2 ∧ p.2 ≤ 10000 := Pt.pv_true h
theorem sv_pv {p : P2} (h : pvP p = true) : Pt.sv p.1 p.2 = true := by have := pvP_true h; exact Pt.sv_in (by omega) (by omega) (by omega) (by omega)
theorem crP_bd {a b : P2} (h : pvP a = true) (h' : pvP b = true) : -200000000 ≤ crP a b ∧ crP a b ≤ 200000000 := by
  have h1 := pvP_true h; have h2 := pvP_true h'
  unfold crP Pt.cr
  have := Pt.mul_bd h1.1 h1.2.1 h2.2.2.1 h2.2.2.2
  have := Pt.mul_bd h1.2.2.1 h1.2.2.2 h2.1 h2.2.1
  omega
theorem sum_bd {f : Nat → Int} {m : Int} (h : ∀ i, -m ≤ f i ∧ f i ≤ m) : ∀ n : Nat, -(m * n) ≤ sumF f n ∧ sumF f n ≤ m * n
  | 0 => by simp [sumF]
  | n + 1 => by
    have h1 := sum_bd h n
    have h2 := h n
    have e : m * ((n + 1 : Nat) : Int) = m * n + m := by rw [Int.natCast_add, Int.mul_add]; simp
    unfold sumF
    omega
theorem area_to (h : okP L = true) (n : Nat) (hn : n ≤ 12) : -2400000000 ≤ sumF (fun i => crP (cy L i) (cy L (i + 1))) n ∧ sumF (fun i => crP (cy L i) (cy L (i + 1))) n ≤ 2400000000 := by
  have := sum_bd (f := fun i => crP (cy L i) (cy L (i + 1))) (m := 200000000) (fun i => crP_bd (okP_at h i) (okP_at h (i + 1))) n
  have : (200000000 : Int) * (n : Int) ≤ 2400000000 := by omega
  omega
theorem area_bd (h : okP L = true) : -2400000000 ≤ areaL L ∧ areaL L ≤ 2400000000 := area_to h _ (okP_len h).2
theorem gapP_bd {a b : P2} (h : pvP a = true) (h' : pvP b = true) : 0 ≤ gapP a b ∧ gapP a b ≤ 20000 := by
  have h1 := pvP_true h; have h2 := pvP_true h'
  unfold gapP
  refine ⟨by omega, ?_⟩
  by_cases e : b.2 - a.2 = 0
  · rw [e]
    simp
    omega
  · have := Quo.gcd_le (b.1 - a.1) (b.2 - a.2) e
    omega
theorem edge_to (h : okP L = true) (n : Nat) (hn : n ≤ 12) : 0 ≤ sumF (fun i => gapP (cy L i) (cy L (i + 1))) n ∧ sumF (fun i => gapP (cy L i) (cy L (i + 1))) n ≤ 240000 := by
  have h2 := sum_bd (f := fun i => gapP (cy L i) (cy L (i + 1))) (m := 20000) (fun i => by have := gapP_bd (okP_at h i) (okP_at h (i + 1)); constructor <;> omega) n
  have h0 : ∀ k : Nat, 0 ≤ sumF (fun i => gapP (cy L i) (cy L (i + 1))) k := fun k => by
    induction k with
    | zero => simp [sumF]
    | succ k ih => unfold sumF; have := gapP_bd (okP_at h k) (okP_at h (k + 1)); omega
  have := h0 n
  have : (20000 : Int) * (n : Int) ≤ 240000 := by omega
  omega
theorem edge_bd (h : okP L = true) : 0 ≤ edgeL L ∧ edgeL L ≤ 240000 := edge_to h _ (okP_len h).2

/-- the points laid flat -/
def fl : List P2 → List Int
  | [] => []
  | p :: l => p.1 :: p.2 :: fl l
theorem fl_len : ∀ L : List P2, (fl L).length = L.length * 2
  | [] => rfl
  | p :: l => by simp [fl, fl_len l]; omega
theorem fl_append : ∀ A B : List P2, fl (A ++ B) = fl A ++ fl B
  | [], B => rfl
  | p :: l, B => by simp [fl, fl_append l B]
theorem fl_at : ∀ {L : List P2} {i : Nat} {p : P2}, L[i]? = some p → (fl L)[i * 2]? = some p.1 ∧ (fl L)[i * 2 + 1]? = some p.2
  | [], i, p, h => by simp at h
  | q :: l, 0, p, h => by simp at h; subst h; simp [fl]
  | q :: l, i + 1, p, h => by
    have h' : l[i]? = some p := by simpa using h
    have := fl_at h'
    have e : (i + 1) * 2 = i * 2 + 1 + 1 := by omega
    rw [e]
    simpa [fl] using this
theorem fl_inj : ∀ {A B : List P2}, fl A = fl B → A = B
  | [], [], _ => rfl
  | [], _ :: _, h => by simp [fl] at h
  | _ :: _, [], h => by simp [fl] at h
  | p :: a, q :: b, h => by
    simp only [fl, List.cons.injEq] at h
    rw [fl_inj h.2.2, Prod.ext h.1 h.2.1]
end Poly
namespace Poly
variable {L : List P2}

theorem back_len2 (L : List P2) : (backL L).length = L.length := by cases L <;> simp [backL]
theorem cy_back2 (L : List P2) (h : 0 < L.length) (i : Nat) : cy (backL L) i = cy L (L.length - i % L.length) := by
  unfold cy
  rw [back_len2]
  have hm := Nat.mod_lt i h
  generalize i % L.length = m at *
  cases L with
  | nil => simp at h
  | cons a l =>
    rcases Nat.eq_zero_or_pos m with rfl | hp
    · simp [backL]
    · have h1 : (a :: l).length - m < (a :: l).length := by simp at hm ⊢; omega
      rw [Nat.mod_eq_of_lt h1, getD_at h1, getD_at (by rw [back_len2]; exact hm)]
      obtain ⟨q, rfl⟩ : ∃ q, m = q + 1 := ⟨m - 1, by omega⟩
      simp only [backL, List.getElem_cons_succ]
      rw [List.getElem_reverse]
      have e : (a :: l).length - (q + 1) = (l.length - 1 - q) + 1 := by simp at hm ⊢; omega
      simp only [e, List.getElem_cons_succ]

/-- the corners with the one numbered k first -/
def begL (L : List P2) (k : Nat) : List P2 := L.drop k ++ L.take k
theorem beg_len {k : Nat} (h : k ≤ L.length) : (begL L k).length = L.length := by unfold begL; rw [List.length_append, List.length_drop, List.length_take]; omega
theorem cy_beg {k : Nat} (h : k < L.length) (i : Nat) : cy (begL L k) i = cy L (i + k) := by
  unfold cy
  rw [beg_len (by omega)]
  have hm := Nat.mod_lt i (show 0 < L.length by omega)
  rw [Nat.add_mod i k, Nat.mod_eq_of_lt h]
  generalize i % L.length = m at *
  rw [getD_at (by rw [beg_len (by omega)]; exact hm)]
  unfold begL
  by_cases hlt : m + k < L.length
  · rw [Nat.mod_eq_of_lt hlt, getD_at hlt, List.getElem_append_left (by rw [List.length_drop]; omega), List.getElem_drop]
    congr 1
    omega
  · have e : (m + k) % L.length = m + k - L.length := by rw [Nat.mod_eq_sub_mod (by omega), Nat.mod_eq_of_lt (by omega)]
    rw [e, getD_at (by omega), List.getElem_append_right (by rw [List.length_drop]; omega), List.getElem_take]
    congr 1
    rw [List.length_drop]
    omega
def rotP (p : P2) : P2 := (0 - p.2, p.1)
def rotL (L : List P2) : List P2 := L.map rotP
theorem rot_len (L : List P2) : (rotL L).length = L.length := by unfold rotL; simp
theorem cy_rot (h : 0 < L.length) (i : Nat) : cy (rotL L) i = rotP (cy L i) := by
  unfold cy
  rw [rot_len]
  have hm := Nat.mod_lt i h
  rw [getD_at (by rw [rot_len]; exact hm), getD_at hm]
  unfold rotL
  simp

theorem sum_congr {f g : Nat → Int} : ∀ {n : Nat}, (∀ i, i < n → f i = g i) → sumF f n = sumF g n
  | 0, _ => rfl
  | n + 1, h => by unfold sumF; rw [sum_congr (fun i hi => h i (by omega)), h n (by omega)]
theorem sum_head (g : Nat → Int) : ∀ n : Nat, sumF g (n + 1) = g 0 + sumF (fun i => g (i + 1)) n
  | 0 => by simp [sumF]
  | n + 1 => by
    have h := sum_head g n
    have e1 : sumF g (n + 1 + 1) = sumF g (n + 1) + g (n + 1) := rfl
    have e2 : sumF (fun i => g (i + 1)) (n + 1) = sumF (fun i => g (i + 1)) n + g (n + 1) := rfl
    omega
theorem sum_neg (g : Nat → Int) : ∀ n : Nat, sumF (fun i => - g i) n = - sumF g n
  | 0 => by simp [sumF]
  | n + 1 => by unfold sumF; rw [sum_neg g n]; omega
theorem sum_rev (g : Nat → Int) : ∀ n : Nat, sumF (fun i => g (n - 1 - i)) n = sumF g n
  | 0 => rfl
  | n + 1 => by
    rw [sum_head, sum_congr (g := fun i => g (n - 1 - i)) (fun i hi => by show g _ = g _; congr 1; omega), sum_rev g n]
    show g (n + 1 - 1 - 0) + sumF g n = sumF g n + g n
    rw [show n + 1 - 1 - 0 = n by omega]
    omega
theorem sum_shift {g : Nat → Int} {n : Nat} (h : ∀ i, g (i + n) = g i) : ∀ k : Nat, sumF (fun i => g (i + k)) n = sumF g n
  | 0 => rfl
  | k + 1 => by
    have h1 := sum_shift h k
    have h2 := sum_head (fun i => g (i + k)) n
    have h3 : sumF (fun i => g (i + k)) (n + 1) = sumF (fun i => g (i + k)) n + g (n + k) := rfl
    have h4 : g (n + k) = g (0 + k) := by rw [Nat.add_comm n k, h k, Nat.zero_add]
    have h5 : sumF (fun i => g (i + 1 + k)) n = sumF (fun i => g (i + (k + 1))) n := sum_congr (fun i _ => by congr 1; omega)
    omega

theorem area_back (h : 0 < L.length) : areaL (backL L) = - areaL L := by
  unfold areaL
  rw [back_len2, ← sum_neg, ← sum_rev (fun i => - crP (cy L i) (cy L (i + 1)))]
  refine sum_congr (fun i hi => ?_)
  rw [cy_back2 L h, cy_back2 L h, Nat.mod_eq_of_lt hi]
  have e : cy L (L.length - (i + 1) % L.length) = cy L (L.length - 1 - i) := by
    by_cases hl : i + 1 = L.length
    · rw [hl, Nat.mod_self, show L.length - 1 - i = 0 by omega]
      have := cy_add (L := L) 0
      rw [Nat.zero_add] at this
      exact this
    · rw [Nat.mod_eq_of_lt (by omega), show L.length - (i + 1) = L.length - 1 - i by omega]
  rw [e, show L.length - i = L.length - 1 - i + 1 by omega]
  unfold crP Pt.cr
  simp only [Int.mul_comm]
  omega
theorem area_beg {k : Nat} (h : k < L.length) : areaL (begL L k) = areaL L := by
  unfold areaL
  rw [beg_len (by omega)]
  rw [← sum_shift (g := fun i => crP (cy L i) (cy L (i + 1))) (n := L.length) (fun i => by
    show crP (cy L (i + L.length)) (cy L (i + L.length + 1)) = _
    rw [show i + L.length + 1 = i + 1 + L.length by omega, cy_add, cy_add]) k]
  refine sum_congr (fun i _ => ?_)
  rw [cy_beg h, cy_beg h, show i + 1 + k = i + k + 1 by omega]
theorem area_rot (h : 0 < L.length) : areaL (rotL L) = areaL L := by
  unfold areaL
  rw [rot_len]
  refine sum_congr (fun i _ => ?_)
  rw [cy_rot h, cy_rot h]
  unfold crP Pt.cr rotP
  simp only [Int.zero_sub, Int.neg_mul, Int.mul_neg]
  rw [Int.mul_comm (cy L i).2]
  omega
/-- the areas of the first triangles -/
def fanA (L : List P2) (i : Nat) : Int := sumF (fun i => crP (cy L i) (cy L (i + 1))) i + crP (cy L i) (cy L 0)
theorem crP_swap (a b : P2) : crP a b = - crP b a := by
  unfold crP Pt.cr
  rw [Int.mul_comm a.1, Int.mul_comm a.2]
  omega
theorem fan_one : fanA L 1 = 0 := by
  unfold fanA sumF sumF
  have := crP_swap (cy L 1) (cy L 0)
  simp only [Nat.zero_add]
  omega
theorem area_tri (a b c : P2) : areaL [a, b, c] = crP a b + crP b c + crP c a := by
  unfold areaL
  show sumF _ 3 = _
  simp [sumF, cy]
theorem fan_next (i : Nat) : fanA L (i + 1) = fanA L i + areaL [cy L 0, cy L i, cy L (i + 1)] := by
  rw [area_tri]
  have := crP_swap (cy L 0) (cy L i)
  unfold fanA
  simp only [sumF]
  omega
theorem fan_all (h : 0 < L.length) : fanA L (L.length - 1) = areaL L := by
  obtain ⟨n, hn⟩ : ∃ n, L.length = n + 1 := ⟨L.length - 1, by omega⟩
  have e : cy L (n + 1) = cy L 0 := by
    have := cy_add (L := L) 0
    rw [Nat.zero_add, hn] at this
    exact this
  unfold fanA areaL
  rw [hn, Nat.add_sub_cancel]
  simp only [sumF]
  rw [e]
theorem okP_beg (h : okP L = true) {k : Nat} (hk : k < L.length) : okP (begL L k) = true := by
  have hl := okP_len h
  refine okP_of (by rw [beg_len (by omega)]; exact hl.1) (by rw [beg_len (by omega)]; exact hl.2) (fun i _ => ?_)
  rw [cy_beg hk]
  exact okP_at h _
theorem okP_rot (h : okP L = true) : okP (rotL L) = true := by
  have hl := okP_len h
  refine okP_of (by rw [rot_len]; exact hl.1) (by rw [rot_len]; exact hl.2) (fun i _ => ?_)
  rw [cy_rot (by omega)]
  have := pvP_true (okP_at h i)
  unfold pvP rotP
  exact Pt.pv_in (by simp; omega) (by simp; omega) (by simp; omega) (by simp; omega)
theorem okP_tri (h : okP L = true) (i j k : Nat) : okP [cy L i, cy L j, cy L k] = true := by
  refine okP_of (by simp) (by simp) (fun q hq => ?_)
  have hq' : q < 3 := hq
  have : q = 0 ∨ q = 1 ∨ q = 2 := by omega
  rcases this with rfl | rfl | rfl <;> simp only [cy] <;> exact okP_at h _
theorem fan_bd (h : okP L = true) (i : Nat) (hi : i ≤ 12) : -2600000000 ≤ fanA L i ∧ fanA L i ≤ 2600000000 := by
  have h1 := area_to h i hi
  have h2 := crP_bd (okP_at h i) (okP_at h 0)
  unfold fanA
  omega
end Poly
namespace Poly
variable {L : List P2}

theorem crs_swap (a b p : P2) : crs b a p = - crs a b p := by
  unfold crs Pt.cr
  obtain ⟨a1, a2⟩ := a
  obtain ⟨b1, b2⟩ := b
  obtain ⟨p1, p2⟩ := p
  show (a1 - b1) * (p2 - b2) - (a2 - b2) * (p1 - b1) = -((b1 - a1) * (p2 - a2) - (b2 - a2) * (p1 - a1))
  simp only [Int.sub_mul, Int.mul_sub]
  rw [Int.mul_comm a2 b1, Int.mul_comm b2 a1]
  rw [Int.mul_comm b2 b1, Int.mul_comm a2 a1]
  omega
theorem onP_swap (a b p : P2) : onP b a p = onP a b p := by
  have h := crs_swap a b p
  unfold crs at h
  unfold onP Pt.onB
  have e : (Pt.cr (a.1 - b.1) (a.2 - b.2) (p.1 - b.1) (p.2 - b.2) = 0) ↔ (Pt.cr (b.1 - a.1) (b.2 - a.2) (p.1 - a.1) (p.2 - a.2) = 0) := by rw [h]; omega
  rw [Bool.eq_iff_iff]
  simp only [decide_eq_true_eq, Bool.and_eq_true, Int.min_def, Int.max_def]
  refine and_congr e ?_
  repeat' split
  all_goals omega
theorem east_swap (a b p : P2) : east b a p = east a b p := by
  have h := crs_swap a b p
  unfold east
  rw [h]
  by_cases h1 : a.2 ≤ p.2 ∧ p.2 < b.2
  · have h2 : ¬ (b.2 ≤ p.2 ∧ p.2 < a.2) := by omega
    rw [if_neg h2, if_pos h1, if_pos h1]
    exact decide_eq_decide.2 (by omega)
  · by_cases h2 : b.2 ≤ p.2 ∧ p.2 < a.2
    · rw [if_pos h2, if_neg h1, if_pos h2]
      exact decide_eq_decide.2 (by omega)
    · rw [if_neg h2, if_neg h1, if_neg h1, if_neg h2]
theorem sgn_neg (x : Int) : sgn (-x) = - sgn x := by
  unfold sgn
  repeat' split
  all_goals omega
theorem sd_swap (a b c : P2) : sd b a c = - sd a b c := by unfold sd; rw [crs_swap a b c, sgn_neg]
theorem parts_swap (a b c d : P2) : parts b a d c = parts a b c d := by
  unfold parts
  rw [sd_swap a b d, sd_swap a b c, Int.neg_mul_neg, Int.mul_comm]
theorem meet_swap (a b c d : P2) : meet b a d c = meet a b c d := by
  unfold meet touch
  rw [parts_swap a b c d, parts_swap c d a b, onP_swap a b, onP_swap a b, onP_swap c d, onP_swap c d]
  cases onP a b c <;> cases onP a b d <;> cases onP c d a <;> cases onP c d b <;> rfl
theorem meet_comm (a b c d : P2) : meet c d a b = meet a b c d := by
  unfold meet touch
  rw [Bool.and_comm (parts c d a b)]
  cases onP a b c <;> cases onP a b d <;> cases onP c d a <;> cases onP c d b <;> rfl

/-- the side after the side i folds back on it -/
def fold (L : List P2) (i : Nat) : Bool := onP (cy L i) (cy L (i + 1)) (cy L (i + 2)) || onP (cy L (i + 1)) (cy L (i + 2)) (cy L i)
def far2 (L : List P2) : Prop := (∀ i, i < L.length → fold L i = false) ∧ ∀ i k, i < k → k < L.length → k ≠ i + 1 → ¬ (i = 0 ∧ k + 1 = L.length) → meet (cy L i) (cy L (i + 1)) (cy L k) (cy L (k + 1)) = false
theorem cy_n (i : Nat) (h : L.length ≤ i) : cy L i = cy L (i - L.length) := by
  have := cy_add (L := L) (i - L.length)
  rw [Nat.sub_add_cancel h] at this
  exact this
theorem clash_next (i : Nat) : clash L i (i + 1) = fold L i := by
  unfold clash fold
  rw [if_pos rfl]
theorem clash_last (h3 : 3 ≤ L.length) : clash L 0 (L.length - 1) = fold L (L.length - 1) := by
  unfold clash fold
  have e1 : L.length - 1 + 1 = L.length := by omega
  have e2 : L.length - 1 + 2 = L.length + 1 := by omega
  rw [if_neg (by omega), if_pos (by rw [e1, Nat.mod_self]), e1, e2, cy_n L.length (Nat.le_refl _), Nat.sub_self, cy_n (L.length + 1) (by omega), Nat.add_sub_cancel_left]
theorem clash_far {i k : Nat} (hi : i < k) (hk : k < L.length) (h1 : k ≠ i + 1) (h2 : ¬ (i = 0 ∧ k + 1 = L.length)) : clash L i k = meet (cy L i) (cy L (i + 1)) (cy L k) (cy L (k + 1)) := by
  unfold clash
  rw [if_neg h1, if_neg]
  intro e
  by_cases hl : k + 1 = L.length
  · rw [hl, Nat.mod_self] at e; omega
  · rw [Nat.mod_eq_of_lt (by omega)] at e; omega
theorem simple_far (h3 : 3 ≤ L.length) : simple L = true ↔ far2 L := by
  constructor
  · intro h
    refine ⟨fun i hi => ?_, fun i k hi hk h1 h2 => ?_⟩
    · by_cases hl : i + 1 < L.length
      · rw [← clash_next]; exact simple_at h (by omega) hl
      · have e : i = L.length - 1 := by omega
        rw [e, ← clash_last h3]; exact simple_at h (by omega) (by omega)
    · rw [← clash_far hi hk h1 h2]; exact simple_at h hi hk
  · intro h
    refine simple_of (fun i k hi hk => ?_)
    by_cases h1 : k = i + 1
    · rw [h1, clash_next]; exact h.1 i (by omega)
    · by_cases h2 : i = 0 ∧ k + 1 = L.length
      · rw [h2.1, show k = L.length - 1 by omega, clash_last h3]; exact h.1 _ (by omega)
      · rw [clash_far hi hk h1 h2]; exact h.2 i k hi hk h1 h2
/-- two sides that are not neighbours, in whatever order -/
theorem far2_any (h : far2 L) {i k : Nat} (hi : i < L.length) (hk : k < L.length) (h0 : i ≠ k) (h1 : k ≠ i + 1) (h2 : i ≠ k + 1) (h3 : ¬ (i = 0 ∧ k + 1 = L.length)) (h4 : ¬ (k = 0 ∧ i + 1 = L.length)) :
    meet (cy L i) (cy L (i + 1)) (cy L k) (cy L (k + 1)) = false := by
  by_cases hlt : i < k
  · exact h.2 i k hlt hk h1 h3
  · rw [← meet_comm]; exact h.2 k i (by omega) hi h2 h4
/-- the side's number in a list that begins elsewhere -/
def num (n k i : Nat) : Nat := if i + k < n then i + k else i + k - n
theorem cy_num {k i : Nat} (hk : k < L.length) (hi : i < L.length) (j : Nat) : cy L (i + k + j) = cy L (num L.length k i + j) := by
  unfold num
  split
  · rfl
  · rw [cy_n (i + k + j) (by omega)]; congr 1; omega
theorem beg_cy {k i : Nat} (hk : k < L.length) (hi : i < L.length) (j : Nat) : cy (begL L k) (i + j) = cy L (num L.length k i + j) := by
  rw [cy_beg hk, ← cy_num hk hi]; congr 1; omega
theorem simple_beg (h3 : 3 ≤ L.length) (h : simple L = true) {s : Nat} (hs : s < L.length) : simple (begL L s) = true := by
  have hf := (simple_far h3).1 h
  have hl := beg_len (L := L) (k := s) (by omega)
  refine (simple_far (by omega)).2 ⟨fun i hi => ?_, fun i k hi hk h1 h2 => ?_⟩
  · rw [hl] at hi
    have e0 := beg_cy hs hi 0
    rw [Nat.add_zero, Nat.add_zero] at e0
    unfold fold
    rw [e0, beg_cy hs hi 1, beg_cy hs hi 2]
    have := hf.1 (num L.length s i) (by unfold num; split <;> omega)
    exact this
  · rw [hl] at hk h2
    have e0 := beg_cy hs (show i < L.length by omega) 0
    have e1 := beg_cy hs hk 0
    rw [Nat.add_zero, Nat.add_zero] at e0 e1
    rw [e0, e1, beg_cy hs (show i < L.length by omega) 1, beg_cy hs hk 1]
    refine far2_any hf ?_ ?_ ?_ ?_ ?_ ?_ ?_
    all_goals (unfold num; (repeat' split) <;> omega)
/-- the side's number in the list the other way round -/
theorem back_cy (h : 0 < L.length) {i : Nat} (hi : i < L.length) : cy (backL L) i = cy L (L.length - 1 - i + 1) ∧ cy (backL L) (i + 1) = cy L (L.length - 1 - i) := by
  rw [cy_back2 L h, cy_back2 L h, Nat.mod_eq_of_lt hi]
  refine ⟨by congr 1; omega, ?_⟩
  by_cases hl : i + 1 = L.length
  · rw [hl, Nat.mod_self, cy_n _ (by omega)]; congr 1; omega
  · rw [Nat.mod_eq_of_lt (by omega)]; congr 1; omega
theorem simple_back (h3 : 3 ≤ L.length) (h : simple L = true) : simple (backL L) = true := by
  have hf := (simple_far h3).1 h
  have hl := back_len2 L
  refine (simple_far (by omega)).2 ⟨fun i hi => ?_, fun i k hi hk h1 h2 => ?_⟩
  · rw [hl] at hi
    unfold fold
    rw [(back_cy (by omega) hi).1, (back_cy (by omega) hi).2]
    by_cases hlt : i + 1 < L.length
    · have e := (back_cy (L := L) (by omega) hlt).2
      rw [show i + 1 + 1 = i + 2 by omega] at e
      rw [e]
      have := hf.1 (L.length - 1 - (i + 1)) (by omega)
      unfold fold at this
      rw [show L.length - 1 - (i + 1) + 1 = L.length - 1 - i by omega, show L.length - 1 - (i + 1) + 2 = L.length - 1 - i + 1 by omega] at this
      rw [onP_swap, onP_swap (cy L (L.length - 1 - (i + 1))), Bool.or_comm]
      exact this
    · have hie : i = L.length - 1 := by omega
      have e : cy (backL L) (i + 2) = cy L (L.length - 1) := by
        have := (back_cy (L := L) (by omega) (show 0 < L.length by omega)).2
        rw [cy_n (L := backL L) (i + 2) (by omega), hl, show i + 2 - L.length = 0 + 1 by omega, this]
        rfl
      rw [e, hie, show L.length - 1 - (L.length - 1) = 0 by omega]
      have := hf.1 (L.length - 1) (by omega)
      unfold fold at this
      rw [show L.length - 1 + 1 = L.length by omega, show L.length - 1 + 2 = L.length + 1 by omega, cy_n L.length (Nat.le_refl _), Nat.sub_self, cy_n (L.length + 1) (by omega), Nat.add_sub_cancel_left] at this
      rw [Nat.zero_add, onP_swap (cy L 0) (cy L 1), onP_swap (cy L (L.length - 1)) (cy L 0), Bool.or_comm]
      exact this
  · rw [hl] at hk h2
    rw [(back_cy (by omega) (show i < L.length by omega)).1, (back_cy (by omega) (show i < L.length by omega)).2, (back_cy (by omega) hk).1, (back_cy (by omega) hk).2, meet_swap]
    exact far2_any hf (by omega) (by omega) (by omega) (by omega) (by omega) (by omega) (by omega)
theorem okP_back2 (h : okP L = true) : okP (backL L) = true := by
  have hl := okP_len h
  refine okP_of (by rw [back_len2]; exact hl.1) (by rw [back_len2]; exact hl.2) (fun i hi => ?_)
  rw [cy_back2 L (by omega)]
  exact okP_at h _
theorem polyV_parts (h : polyV L = true) : okP L = true ∧ simple L = true := by unfold polyV at h; rw [Bool.and_eq_true] at h; exact h
theorem polyV_beg (h : polyV L = true) {k : Nat} (hk : k < L.length) : polyV (begL L k) = true := by
  obtain ⟨h1, h2⟩ := polyV_parts h
  unfold polyV
  rw [okP_beg h1 hk, simple_beg (okP_len h1).1 h2 hk]
  rfl
theorem polyV_back (h : polyV L = true) : polyV (backL L) = true := by
  obtain ⟨h1, h2⟩ := polyV_parts h
  unfold polyV
  rw [okP_back2 h1, simple_back (okP_len h1).1 h2]
  rfl

theorem odd_congr {f g : Nat → Bool} : ∀ {n : Nat}, (∀ i, i < n → f i = g i) → oddF f n = oddF g n
  | 0, _ => rfl
  | n + 1, h => by unfold oddF; rw [odd_congr (fun i hi => h i (by omega)), h n (by omega)]
theorem odd_head (g : Nat → Bool) : ∀ n : Nat, oddF g (n + 1) = xor (g 0) (oddF (fun i => g (i + 1)) n)
  | 0 => by simp [oddF]
  | n + 1 => by
    have h := odd_head g n
    have e1 : oddF g (n + 1 + 1) = xor (oddF g (n + 1)) (g (n + 1)) := rfl
    have e2 : oddF (fun i => g (i + 1)) (n + 1) = xor (oddF (fun i => g (i + 1)) n) (g (n + 1)) := rfl
    rw [e1, e2, h, Bool.xor_assoc]
theorem odd_rev (g : Nat → Bool) : ∀ n : Nat, oddF (fun i => g (n - 1 - i)) n = oddF g n
  | 0 => rfl
  | n + 1 => by
    rw [odd_head, odd_congr (g := fun i => g (n - 1 - i)) (fun i hi => by show g _ = g _; congr 1; omega), odd_rev g n]
    show xor (g (n + 1 - 1 - 0)) (oddF g n) = xor (oddF g n) (g n)
    rw [show n + 1 - 1 - 0 = n by omega, Bool.xor_comm]
theorem odd_shift {g : Nat → Bool} {n : Nat} (h : ∀ i, g (i + n) = g i) : ∀ k : Nat, oddF (fun i => g (i + k)) n = oddF g n
  | 0 => rfl
  | k + 1 => by
    have h1 := odd_shift h k
    have h2 := odd_head (fun i => g (i + k)) n
    have h3 : oddF (fun i => g (i + k)) (n + 1) = xor (oddF (fun i => g (i + k)) n) (g (n + k)) := rfl
    have h4 : g (n + k) = g (0 + k) := by rw [Nat.add_comm n k, h k, Nat.zero_add]
    have h5 : oddF (fun i => g (i + 1 + k)) n = oddF (fun i => g (i + (k + 1))) n := odd_congr (fun i _ => by congr 1; omega)
    rw [← h5, ← h1]
    rw [h3, h4] at h2
    revert h2
    generalize oddF (fun i => g (i + k)) n = x
    generalize oddF (fun i => g (i + 1 + k)) n = y
    cases x <;> cases y <;> cases g (0 + k) <;> simp
theorem any_same {f g : Nat → Bool} {n m : Nat} (h : ∀ i, i < n → f i = true → ∃ j, j < m ∧ g j = true) (h' : ∀ i, i < m → g i = true → ∃ j, j < n ∧ f j = true) : anyF f n = anyF g m := by
  rw [Bool.eq_iff_iff]
  constructor
  · intro e
    obtain ⟨i, hi, e⟩ := anyF_get e
    obtain ⟨j, hj, e⟩ := h i hi e
    exact anyF_of hj e
  · intro e
    obtain ⟨i, hi, e⟩ := anyF_get e
    obtain ⟨j, hj, e⟩ := h' i hi e
    exact anyF_of hj e
theorem place_beg {k : Nat} (hk : k < L.length) (p : P2) : placeL (begL L k) p = placeL L p := by
  have e1 : onL (begL L k) p = onL L p := by
    unfold onL
    rw [beg_len (by omega)]
    refine any_same (fun i hi h => ⟨num L.length k i, by unfold num; split <;> omega, ?_⟩) (fun i hi h => ⟨if k ≤ i then i - k else i + L.length - k, by split <;> omega, ?_⟩)
    · have e0 := beg_cy hk hi 0
      rw [Nat.add_zero, Nat.add_zero] at e0
      rw [e0, beg_cy hk hi 1] at h
      exact h
    · have hj : (if k ≤ i then i - k else i + L.length - k) < L.length := by split <;> omega
      have e0 := beg_cy hk hj 0
      rw [Nat.add_zero, Nat.add_zero] at e0
      have hn : num L.length k (if k ≤ i then i - k else i + L.length - k) = i := by unfold num; repeat' split
                                                                                     all_goals omega
      rw [hn] at e0
      rw [e0, beg_cy hk hj 1, hn]
      exact h
  have e2 : oddL (begL L k) p = oddL L p := by
    unfold oddL
    rw [beg_len (by omega)]
    rw [← odd_shift (g := fun i => east (cy L i) (cy L (i + 1)) p) (n := L.length) (fun i => by
      show east (cy L (i + L.length)) (cy L (i + L.length + 1)) p = _
      rw [show i + L.length + 1 = i + 1 + L.length by omega, cy_add, cy_add]) k]
    refine odd_congr (fun i _ => ?_)
    rw [cy_beg hk, cy_beg hk, show i + 1 + k = i + k + 1 by omega]
  unfold placeL
  rw [e1, e2]
theorem place_back (h : 0 < L.length) (p : P2) : placeL (backL L) p = placeL L p := by
  have e1 : onL (backL L) p = onL L p := by
    unfold onL
    rw [back_len2]
    refine any_same (fun i hi h' => ⟨L.length - 1 - i, by omega, ?_⟩) (fun i hi h' => ⟨L.length - 1 - i, by omega, ?_⟩)
    · rw [(back_cy h hi).1, (back_cy h hi).2, onP_swap] at h'
      exact h'
    · have hj : L.length - 1 - i < L.length := by omega
      rw [(back_cy h hj).1, (back_cy h hj).2, show L.length - 1 - (L.length - 1 - i) = i by omega, onP_swap]
      exact h'
  have e2 : oddL (backL L) p = oddL L p := by
    unfold oddL
    rw [back_len2, ← odd_rev (fun i => east (cy L i) (cy L (i + 1)) p)]
    refine odd_congr (fun i hi => ?_)
    rw [(back_cy h hi).1, (back_cy h hi).2, east_swap]
  unfold placeL
  rw [e1, e2]
theorem onP_end (a b : P2) : onP a b a = true := by
  unfold onP Pt.onB
  have : Pt.cr (b.1 - a.1) (b.2 - a.2) (a.1 - a.1) (a.2 - a.2) = 0 := by unfold Pt.cr; simp
  simp only [this, decide_eq_true_eq, Bool.and_eq_true, Int.min_def, Int.max_def]
  refine ⟨trivial, ?_⟩
  repeat' split
  all_goals omega
theorem place_corner {k : Nat} (hk : k < L.length) : placeL L (cy L k) = 0 := by
  have : onL L (cy L k) = true := anyF_of hk (onP_end _ _)
  unfold placeL
  rw [if_pos this]
theorem east_west {a b p : P2} (ha : p.1 < a.1) (hb : p.1 < b.1) : east a b p = xor (decide (a.2 ≤ p.2)) (decide (b.2 ≤ p.2)) := by
  have key : ∀ a b : P2, p.1 < a.1 → p.1 < b.1 → a.2 ≤ p.2 → p.2 < b.2 → 0 < crs a b p := by
    intro a b ha hb h1 h2
    have x1 : 0 < (b.2 - p.2) * (a.1 - p.1) := Int.mul_pos (by omega) (by omega)
    have x2 : 0 ≤ (p.2 - a.2) * (b.1 - p.1) := Int.mul_nonneg (by omega) (by omega)
    have e : crs a b p = (b.2 - p.2) * (a.1 - p.1) + (p.2 - a.2) * (b.1 - p.1) := by
      unfold crs Pt.cr
      obtain ⟨a1, a2⟩ := a
      obtain ⟨b1, b2⟩ := b
      obtain ⟨p1, p2⟩ := p
      show (b1 - a1) * (p2 - a2) - (b2 - a2) * (p1 - a1) = (b2 - p2) * (a1 - p1) + (p2 - a2) * (b1 - p1)
      simp only [Int.sub_mul, Int.mul_sub]
      rw [Int.mul_comm b1 p2, Int.mul_comm b1 a2, Int.mul_comm a1 p2, Int.mul_comm a1 a2]
      omega
    omega
  unfold east
  by_cases h1 : a.2 ≤ p.2
  · by_cases h2 : b.2 ≤ p.2
    · rw [if_neg (by omega), if_neg (by omega)]
      simp [h1, h2]
    · rw [if_pos ⟨h1, by omega⟩]
      have := key a b ha hb h1 (by omega)
      simp [h1, h2, this]
  · by_cases h2 : b.2 ≤ p.2
    · rw [if_neg (by omega), if_pos ⟨h2, by omega⟩]
      have := key b a hb ha h2 (by omega)
      rw [crs_swap a b p] at this
      have h3 : crs a b p < 0 := by omega
      simp [h1, h2, h3]
    · rw [if_neg (by omega), if_neg (by omega)]
      simp [h1, h2]
theorem odd_tele (u : Nat → Bool) : ∀ n : Nat, oddF (fun i => xor (u i) (u (i + 1))) n = xor (u 0) (u n)
  | 0 => by simp [oddF]
  | n + 1 => by
    show xor (oddF (fun i => xor (u i) (u (i + 1))) n) (xor (u n) (u (n + 1))) = _
    rw [odd_tele u n]
    cases u 0 <;> cases u n <;> cases u (n + 1) <;> rfl
theorem place_west {p : P2} (h0 : 0 < L.length) (h : ∀ i, i < L.length → p.1 < (cy L i).1) : placeL L p = -1 := by
  have ha : ∀ i, p.1 < (cy L i).1 := fun i => by rw [← cy_mod]; exact h _ (Nat.mod_lt _ h0)
  have e1 : onL L p = false := by
    refine anyF_false (fun i hi => ?_)
    have h1 := ha i
    have h2 := ha (i + 1)
    unfold onP Pt.onB
    rw [Bool.eq_false_iff]
    intro e
    simp only [decide_eq_true_eq, Bool.and_eq_true, Int.min_def] at e
    have e2 := e.2.1
    split at e2 <;> omega
  have e2 : oddL L p = false := by
    unfold oddL
    rw [odd_congr (g := fun i => xor (decide ((cy L i).2 ≤ p.2)) (decide ((cy L (i + 1)).2 ≤ p.2))) (fun i _ => east_west (ha i) (ha (i + 1))), odd_tele (fun i => decide ((cy L i).2 ≤ p.2)) L.length]
    show xor (decide ((cy L 0).2 ≤ p.2)) (decide ((cy L L.length).2 ≤ p.2)) = false
    rw [cy_n L.length (Nat.le_refl _), Nat.sub_self]
    exact Bool.xor_self _
  unfold placeL
  rw [e1, e2]
  rfl
end Poly
namespace Poly
variable {L : List P2}

def parV (L : List P2) : Bool := polyV L && decide (0 < areaL L)
/-- the corners from the one numbered i on to the one numbered j; those from j on, over the end, to i -/
def splA (L : List P2) (i j : Nat) : List P2 := (L.drop i).take (j + 1 - i)
def splB (L : List P2) (i j : Nat) : List P2 := L.drop j ++ L.take (i + 1)
def inJ (L : List P2) (i j : Int) : Bool := decide (0 ≤ i ∧ i < j ∧ j < L.length)
def splV (L : List P2) (i j : Nat) : Bool := parV (splA L i j) && parV (splB L i j)
def splOk (L : List P2) (i j : Int) : Bool := parV L && inJ L i j && splV L i.toNat j.toNat
def b2i (b : Bool) : Int := if b then 1 else 0
/-- a side of the first one is a side of the second one the other way round -/
def oppP (a b : List P2) (i k : Nat) : Bool := decide (cy a i = cy b (k + 1)) && decide (cy a (i + 1) = cy b k)
def comRow (a b : List P2) (i n : Nat) : Int := sumF (fun k => b2i (oppP a b i k)) n
def commonL (a b : List P2) : Int := sumF (fun i => comRow a b i b.length) a.length

theorem parV_poly (h : parV L = true) : polyV L = true := by unfold parV at h; rw [Bool.and_eq_true] at h; exact h.1
theorem parV_area (h : parV L = true) : 0 < areaL L := by unfold parV at h; rw [Bool.and_eq_true, decide_eq_true_eq] at h; exact h.2
theorem parV_ok (h : parV L = true) : okP L = true := (polyV_parts (parV_poly h)).1
theorem parV_mk (h : polyV L = true) (h' : 0 < areaL L) : parV L = true := by unfold parV; rw [h, decide_eq_true h']; rfl
theorem parV_off (h : polyV L = false) : parV L = false := by unfold parV; rw [h]; rfl
theorem parV_neg (h : areaL L ≤ 0) : parV L = false := by unfold parV; rw [decide_eq_false (by omega), Bool.and_false]

section
variable {i j : Nat}
theorem splA_len (hij : i < j) (hj : j < L.length) : (splA L i j).length = j - i + 1 := by unfold splA; rw [List.length_take, List.length_drop]; omega
theorem splB_len (hij : i < j) (hj : j < L.length) : (splB L i j).length = L.length - j + i + 1 := by unfold splB; rw [List.length_append, List.length_drop, List.length_take]; omega
theorem cy_splA (hij : i < j) (hj : j < L.length) {t : Nat} (ht : t ≤ j - i) : cy (splA L i j) t = cy L (i + t) := by
  unfold cy
  rw [splA_len hij hj, Nat.mod_eq_of_lt (by omega), Nat.mod_eq_of_lt (by omega), getD_at (by rw [splA_len hij hj]; omega), getD_at (by omega)]
  unfold splA
  rw [List.getElem_take, List.getElem_drop]
theorem cy_splA_end (hij : i < j) (hj : j < L.length) : cy (splA L i j) (j - i + 1) = cy L i := by
  have := cy_add (L := splA L i j) 0
  rw [splA_len hij hj, Nat.zero_add] at this
  rw [this, cy_splA hij hj (Nat.zero_le _)]
  rfl
theorem cy_splB (hij : i < j) (hj : j < L.length) {t : Nat} (ht : t ≤ L.length - j + i) : cy (splB L i j) t = cy L (j + t) := by
  unfold cy
  rw [splB_len hij hj, Nat.mod_eq_of_lt (a := t) (by omega), getD_at (by rw [splB_len hij hj]; omega)]
  unfold splB
  by_cases hlt : t < L.length - j
  · rw [Nat.mod_eq_of_lt (by omega), getD_at (by omega), List.getElem_append_left (by rw [List.length_drop]; omega), List.getElem_drop]
  · have e : (j + t) % L.length = t - (L.length - j) := by rw [Nat.mod_eq_sub_mod (by omega), Nat.mod_eq_of_lt (by omega)]; omega
    rw [e, getD_at (by omega), List.getElem_append_right (by rw [List.length_drop]; omega), List.getElem_take]
    congr 1
    rw [List.length_drop]
theorem cy_splB_end (hij : i < j) (hj : j < L.length) : cy (splB L i j) (L.length - j + i + 1) = cy L j := by
  have := cy_add (L := splB L i j) 0
  rw [splB_len hij hj, Nat.zero_add] at this
  rw [this, cy_splB hij hj (Nat.zero_le _)]
  rfl
end

/-- a sum over the sides -/
def ringS (f : P2 → P2 → Int) (L : List P2) : Int := sumF (fun i => f (cy L i) (cy L (i + 1))) L.length
theorem sum_split (g : Nat → Int) (a : Nat) : ∀ b : Nat, sumF g (a + b) = sumF g a + sumF (fun t => g (a + t)) b
  | 0 => by simp [sumF]
  | b + 1 => by
    have h := sum_split g a b
    show sumF g (a + b) + g (a + b) = sumF g a + (sumF (fun t => g (a + t)) b + g (a + b))
    omega
theorem sum_plus (f g : Nat → Int) : ∀ n : Nat, sumF (fun i => f i + g i) n = sumF f n + sumF g n
  | 0 => rfl
  | n + 1 => by have h := sum_plus f g n; show sumF (fun i => f i + g i) n + (f n + g n) = sumF f n + f n + (sumF g n + g n); omega
theorem ring_shift (f : P2 → P2 → Int) (k : Nat) : sumF (fun t => f (cy L (k + t)) (cy L (k + t + 1))) L.length = ringS f L := by
  unfold ringS
  rw [← sum_shift (g := fun i => f (cy L i) (cy L (i + 1))) (n := L.length) (fun i => by
    show f (cy L (i + L.length)) (cy L (i + L.length + 1)) = _
    rw [show i + L.length + 1 = i + 1 + L.length by omega, cy_add, cy_add]) k]
  exact sum_congr (fun t _ => by rw [Nat.add_comm k t])
theorem ring_split (f : P2 → P2 → Int) {i j : Nat} (hij : i < j) (hj : j < L.length) :
    ringS f (splA L i j) + ringS f (splB L i j) = ringS f L + f (cy L j) (cy L i) + f (cy L i) (cy L j) := by
  have hA : ringS f (splA L i j) = sumF (fun t => f (cy L (i + t)) (cy L (i + t + 1))) (j - i) + f (cy L j) (cy L i) := by
    unfold ringS
    rw [splA_len hij hj]
    show sumF _ (j - i) + f (cy (splA L i j) (j - i)) (cy (splA L i j) (j - i + 1)) = _
    rw [cy_splA_end hij hj, cy_splA hij hj (Nat.le_refl _), show i + (j - i) = j by omega]
    congr 1
    exact sum_congr (fun t ht => by rw [cy_splA hij hj (by omega), cy_splA hij hj (by omega), Nat.add_assoc])
  have hB : ringS f (splB L i j) = sumF (fun t => f (cy L (j + t)) (cy L (j + t + 1))) (L.length - j + i) + f (cy L i) (cy L j) := by
    unfold ringS
    rw [splB_len hij hj]
    show sumF _ (L.length - j + i) + f (cy (splB L i j) (L.length - j + i)) (cy (splB L i j) (L.length - j + i + 1)) = _
    have e : cy L (j + (L.length - j + i)) = cy L i := by rw [show j + (L.length - j + i) = i + L.length by omega, cy_add]
    rw [cy_splB_end hij hj, cy_splB hij hj (Nat.le_refl _), e]
    congr 1
    exact sum_congr (fun t ht => by rw [cy_splB hij hj (by omega), cy_splB hij hj (by omega), Nat.add_assoc])
  have hL := ring_shift (L := L) f i
  rw [show L.length = (j - i) + (L.length - j + i) by omega, sum_split] at hL
  have e2 : sumF (fun t => f (cy L (i + (j - i + t))) (cy L (i + (j - i + t) + 1))) (L.length - j + i) = sumF (fun t => f (cy L (j + t)) (cy L (j + t + 1))) (L.length - j + i) :=
    sum_congr (fun t _ => by rw [show i + (j - i + t) = j + t by omega])
  rw [e2] at hL
  omega
theorem area_ring : areaL L = ringS crP L := rfl
theorem edge_ring : edgeL L = ringS gapP L := rfl
theorem area_split {i j : Nat} (hij : i < j) (hj : j < L.length) : areaL (splA L i j) + areaL (splB L i j) = areaL L := by
  have := ring_split crP (L := L) hij hj
  have h := crP_swap (cy L j) (cy L i)
  rw [area_ring, area_ring, area_ring]
  omega
theorem gapP_swap (a b : P2) : gapP a b = gapP b a := by
  unfold gapP
  rw [show b.1 - a.1 = -(a.1 - b.1) by omega, show b.2 - a.2 = -(a.2 - b.2) by omega, Int.gcd_neg, Int.neg_gcd]
theorem edge_split {i j : Nat} (hij : i < j) (hj : j < L.length) : edgeL (splA L i j) + edgeL (splB L i j) = edgeL L + 2 * gapP (cy L i) (cy L j) := by
  have := ring_split gapP (L := L) hij hj
  have h := gapP_swap (cy L j) (cy L i)
  rw [edge_ring, edge_ring, edge_ring]
  omega

/-- areas and points on the sides are both even or both odd -/
def pz (p : P2) : Int := if p.1 % 2 = 0 ∧ p.2 % 2 = 0 then 1 else 0
theorem two_dvd_gcd (x y : Int) : (Int.gcd x y : Int) % 2 = 0 ↔ x % 2 = 0 ∧ y % 2 = 0 := by
  constructor
  · intro h
    have h1 := Int.gcd_dvd_left x y
    have h2 := Int.gcd_dvd_right x y
    have h0 : (2 : Int) ∣ (Int.gcd x y : Int) := Int.dvd_of_emod_eq_zero h
    exact ⟨Int.emod_eq_zero_of_dvd (Int.dvd_trans h0 h1), Int.emod_eq_zero_of_dvd (Int.dvd_trans h0 h2)⟩
  · rintro ⟨h1, h2⟩
    exact Int.emod_eq_zero_of_dvd (Int.dvd_coe_gcd (Int.dvd_of_emod_eq_zero h1) (Int.dvd_of_emod_eq_zero h2))
theorem mul_two (x y : Int) : (x * y) % 2 = if x % 2 = 0 ∨ y % 2 = 0 then 0 else 1 := by
  rw [Int.mul_emod]
  rcases Int.emod_two_eq x with h | h <;> rcases Int.emod_two_eq y with h' | h' <;> rw [h, h'] <;> simp
theorem par_side (a b : P2) : (crP a b - gapP a b - pz a - pz b) % 2 = 0 := by
  have h1 := two_dvd_gcd (b.1 - a.1) (b.2 - a.2)
  have h2 := mul_two a.1 b.2
  have h3 := mul_two a.2 b.1
  unfold crP Pt.cr gapP pz
  generalize (Int.gcd (b.1 - a.1) (b.2 - a.2) : Int) = g at *
  generalize a.1 * b.2 = m at *
  generalize a.2 * b.1 = n at *
  rcases Int.emod_two_eq a.1 with q1 | q1 <;> rcases Int.emod_two_eq a.2 with q2 | q2 <;> rcases Int.emod_two_eq b.1 with q3 | q3 <;> rcases Int.emod_two_eq b.2 with q4 | q4 <;>
    simp [q1, q2, q3, q4] at h2 h3 ⊢ <;> omega
theorem sum_even {f : Nat → Int} (h : ∀ i, f i % 2 = 0) : ∀ n : Nat, sumF f n % 2 = 0
  | 0 => rfl
  | n + 1 => by have h1 := sum_even h n; have h2 := h n; show (sumF f n + f n) % 2 = 0; omega
theorem par_all (_h : 0 < L.length) : (areaL L - edgeL L) % 2 = 0 := by
  have h1 := sum_even (f := fun i => crP (cy L i) (cy L (i + 1)) - gapP (cy L i) (cy L (i + 1)) - pz (cy L i) - pz (cy L (i + 1))) (fun i => par_side _ _) L.length
  have e : ∀ n : Nat, sumF (fun i => crP (cy L i) (cy L (i + 1)) - gapP (cy L i) (cy L (i + 1)) - pz (cy L i) - pz (cy L (i + 1))) n
      = sumF (fun i => crP (cy L i) (cy L (i + 1))) n - sumF (fun i => gapP (cy L i) (cy L (i + 1))) n - sumF (fun i => pz (cy L i)) n - sumF (fun i => pz (cy L (i + 1))) n := by
    intro n
    induction n with
    | zero => rfl
    | succ n ih => simp only [sumF]; omega
  rw [e] at h1
  have h2 := sum_shift (g := fun i => pz (cy L i)) (n := L.length) (fun i => by show pz (cy L (i + L.length)) = _; rw [cy_add]) 1
  unfold areaL edgeL
  omega
theorem inside_eq (h : parV L = true) : 2 * insideL L = areaL L - edgeL L + 2 := by
  have hp := par_all (L := L) (by have := okP_len (parV_ok h); omega)
  have ha := parV_area h
  unfold insideL
  rw [Int.natAbs_of_nonneg (by omega)]
  obtain ⟨k, hk⟩ : ∃ k, areaL L - edgeL L + 2 = 2 * k := ⟨(areaL L - edgeL L + 2) / 2, by omega⟩
  rw [hk, Int.mul_tdiv_cancel_left _ (by decide)]
theorem inside_split {i j : Nat} (hij : i < j) (hj : j < L.length) (h : parV L = true) (ha : parV (splA L i j) = true) (hb : parV (splB L i j) = true) :
    insideL (splA L i j) + insideL (splB L i j) + gapP (cy L i) (cy L j) - 1 = insideL L := by
  have h1 := inside_eq h; have h2 := inside_eq ha; have h3 := inside_eq hb
  have h4 := area_split (L := L) hij hj
  have h5 := edge_split (L := L) hij hj
  omega

theorem clash_same {i k : Nat} (h : cy L i = cy L k) (_hik : i < k) : clash L i k = true := by
  have e1 : onP (cy L k) (cy L (k + 1)) (cy L i) = true := by rw [h]; exact onP_end _ _
  have e2 : onP (cy L i) (cy L (i + 1)) (cy L k) = true := by rw [← h]; exact onP_end _ _
  unfold clash
  split
  · rw [e1, Bool.or_true]
  · split
    · rw [e2, Bool.or_true]
    · unfold meet touch
      rw [e2]
      simp
theorem corner_one (h : simple L = true) {i k : Nat} (hi : i < L.length) (hk : k < L.length) (he : cy L i = cy L k) : i = k := by
  rcases Nat.lt_trichotomy i k with h1 | h1 | h1
  · have := simple_at h h1 hk; rw [clash_same he h1] at this; cases this
  · exact h1
  · have := simple_at h h1 hi; rw [clash_same he.symm h1] at this; cases this
theorem corner_mod (h : simple L = true) (h0 : 0 < L.length) {i k : Nat} (he : cy L i = cy L k) : i % L.length = k % L.length :=
  corner_one h (Nat.mod_lt _ h0) (Nat.mod_lt _ h0) (by rw [cy_mod, cy_mod, he])

theorem opp_comm (a b : List P2) (i k : Nat) : oppP a b i k = oppP b a k i := by
  unfold oppP
  rw [Bool.and_comm]
  congr 1 <;> exact decide_eq_decide.2 eq_comm
theorem sum_zero : ∀ n : Nat, sumF (fun _ => 0) n = 0
  | 0 => rfl
  | n + 1 => by show sumF (fun _ => 0) n + 0 = 0; rw [sum_zero n]; rfl
theorem sum_fubini (g : Nat → Nat → Int) (m : Nat) : ∀ n : Nat, sumF (fun i => sumF (fun k => g i k) m) n = sumF (fun k => sumF (fun i => g i k) n) m
  | 0 => (sum_zero m).symm
  | n + 1 => by
    show sumF (fun i => sumF (fun k => g i k) m) n + sumF (fun k => g n k) m = sumF (fun k => sumF (fun i => g i k) n + g n k) m
    rw [sum_plus, sum_fubini g m n]
theorem common_comm (a b : List P2) : commonL a b = commonL b a := by
  unfold commonL comRow
  rw [sum_fubini (fun i k => b2i (oppP a b i k))]
  exact sum_congr (fun k _ => sum_congr (fun i _ => by rw [opp_comm]))
theorem b2i_bd (b : Bool) : 0 ≤ b2i b ∧ b2i b ≤ 1 := by cases b <;> simp [b2i]
theorem count_nn (f : Nat → Bool) : ∀ n : Nat, 0 ≤ sumF (fun i => b2i (f i)) n
  | 0 => Int.le_refl _
  | n + 1 => by have h1 := count_nn f n; have h2 := b2i_bd (f n); show 0 ≤ sumF (fun i => b2i (f i)) n + b2i (f n); omega
theorem count_none {f : Nat → Bool} : ∀ {n : Nat}, (∀ i, i < n → f i = false) → sumF (fun i => b2i (f i)) n = 0
  | 0, _ => rfl
  | n + 1, h => by
    have h1 := count_none (f := f) (n := n) (fun i hi => h i (by omega))
    show sumF (fun i => b2i (f i)) n + b2i (f n) = 0
    rw [h1, h n (by omega)]
    rfl
theorem count_one {f : Nat → Bool} : ∀ {n : Nat}, (∀ i k, i < n → k < n → f i = true → f k = true → i = k) → sumF (fun i => b2i (f i)) n ≤ 1
  | 0, _ => by simp [sumF]
  | n + 1, h => by
    have h1 := count_one (f := f) (n := n) (fun i k hi hk => h i k (by omega) (by omega))
    show sumF (fun i => b2i (f i)) n + b2i (f n) ≤ 1
    cases e : f n with
    | false => show sumF (fun i => b2i (f i)) n + 0 ≤ 1; omega
    | true =>
      rw [count_none (f := f) (n := n) (fun i hi => by
        cases e2 : f i with
        | false => rfl
        | true => have := h i n (by omega) (by omega) e2 e; omega)]
      exact Int.le_refl _
theorem sum_le {f : Nat → Int} {m : Int} : ∀ {n : Nat}, (∀ i, i < n → 0 ≤ f i ∧ f i ≤ m) → 0 ≤ sumF f n ∧ sumF f n ≤ m * n
  | 0, _ => by simp [sumF]
  | n + 1, h => by
    have h1 := sum_le (f := f) (m := m) (n := n) (fun i hi => h i (by omega))
    have h2 := h n (by omega)
    have e : m * ((n + 1 : Nat) : Int) = m * n + m := by rw [Int.natCast_add, Int.mul_add]; simp
    show 0 ≤ sumF f n + f n ∧ sumF f n + f n ≤ m * ((n + 1 : Nat) : Int)
    omega
theorem row_le (a : List P2) {b : List P2} (hb : simple b = true) (i : Nat) : 0 ≤ comRow a b i b.length ∧ comRow a b i b.length ≤ 1 :=
  ⟨count_nn _ _, count_one (fun k k' hk hk' h h' => by
    unfold oppP at h h'
    rw [Bool.and_eq_true, decide_eq_true_eq, decide_eq_true_eq] at h h'
    exact corner_one hb hk hk' (h.2.symm.trans h'.2))⟩
theorem common_le (a : List P2) {b : List P2} (hb : simple b = true) : 0 ≤ commonL a b ∧ commonL a b ≤ a.length := by
  have := sum_le (f := fun i => comRow a b i b.length) (m := 1) (n := a.length) (fun i _ => row_le a hb i)
  unfold commonL
  omega
theorem common_le2 {a b : List P2} (ha : simple a = true) : commonL a b ≤ b.length := by
  rw [common_comm]; exact (common_le b ha).2
theorem row_bd (a b : List P2) (i : Nat) (n : Nat) : 0 ≤ comRow a b i n ∧ comRow a b i n ≤ n := by
  have := sum_le (f := fun k => b2i (oppP a b i k)) (m := 1) (n := n) (fun i _ => b2i_bd _)
  unfold comRow
  omega
theorem sum_none {f : Nat → Int} {n : Nat} (h : ∀ i, i < n → f i = 0) : sumF f n = 0 := (sum_congr (g := fun _ => 0) h).trans (sum_zero n)
theorem common_self (h : polyV L = true) : commonL L L = 0 := by
  obtain ⟨hok, hs⟩ := polyV_parts h
  have hl := okP_len hok
  refine sum_none (fun i hi => count_none (fun k hk => ?_))
  unfold oppP
  rw [Bool.and_eq_false_iff]
  by_cases h1 : cy L i = cy L (k + 1)
  · right
    rw [decide_eq_false_iff_not]
    intro h2
    have e1 := corner_mod hs (by omega) h1
    have e2 := corner_mod hs (by omega) h2
    rw [Nat.mod_eq_of_lt hi] at e1
    rw [Nat.mod_eq_of_lt hk] at e2
    by_cases q : k + 1 = L.length
    · rw [q, Nat.mod_self] at e1
      rw [e1, Nat.mod_eq_of_lt (by omega)] at e2
      omega
    · rw [Nat.mod_eq_of_lt (by omega)] at e1
      rw [e1] at e2
      by_cases q2 : k + 1 + 1 = L.length
      · rw [q2, Nat.mod_self] at e2; omega
      · rw [Nat.mod_eq_of_lt (by omega)] at e2; omega
  · left
    exact decide_eq_false h1
end Poly
