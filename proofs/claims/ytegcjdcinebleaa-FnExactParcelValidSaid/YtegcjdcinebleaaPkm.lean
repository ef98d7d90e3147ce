/-
  Parcels as lists of points: which are parcels, how they are split, which sides they have in common. No function of the program is named.
-/
import Derived.Test.YtegcjdcinebleaaYdg
namespace Poly
variable {L : List P2}

def parV (L : List P2) : Bool := polyV L && decide (0 < areaL L)
/-- the corners from the one numbered i on to the one numbered j; those from j on, over the end, to i -/
def splA (L : List P2) (i j : Nat) : List P2 := (L.drop i).take (j + 1 - i)
def splB (L : List P2) (i j : Nat) : List P2 := L.drop j ++ L.take (i + 1)
def inJ (L : List P2) (i j : Int) : Bool := decide (0 ≤ i ∧ i < j ∧ j < L.length)
def splV (L : List P2) (i j : Nat) : Bool := parV (splA L i j) && parV (splB L i j)
def splOk (L : List P2) (i j : Int) : Bool := parV L && inJ L i j && splV L i.toNat j.toNat
def b2i (b : Bool) : Int := if b then 1 else 0
/-- a side of the first one is a side of the second one the other way round -/
def oppP (a b : List P2) (i k : Nat) : Bool := decide (cy a i = cy b (k + 1)) && decide (cy a (i + 1) = cy b k)
def comRow (a b : List P2) (i n : Nat) : Int := sumF (fun k => b2i (oppP a b i k)) n
def commonL (a b : List P2) : Int := sumF (fun i => comRow a b i b.length) a.length

theorem parV_poly (h : parV L = true) : polyV L = true := by unfold parV at h; rw [Bool.and_eq_true] at h; exact h.1
theorem parV_area (h : parV L = true) : 0 < areaL L := by unfold parV at h; rw [Bool.and_eq_true, decide_eq_true_eq] at h; exact h.2
theorem parV_ok (h : parV L = true) : okP L = true := (polyV_parts (parV_poly h)).1
theorem parV_mk (h : polyV L = true) (h' : 0 < areaL L) : parV L = true := by unfold parV; rw [h, decide_eq_true h']; rfl
theorem parV_off (h : polyV L = false) : parV L = false := by unfold parV; rw [h]; rfl
theorem parV_neg (h : areaL L ≤ 0) : parV L = false := by unfold parV; rw [decide_eq_false (by omega), Bool.and_false]

section
variable {i j : Nat}
theorem splA_len (hij : i < j) (hj : j < L.length) : (splA L i j).length = j - i + 1 := by unfold splA; rw [List.length_take, List.length_drop]; omega
theorem splB_len (hij : i < j) (hj : j < L.length) : (splB L i j).length = L.length - j + i + 1 := by unfold splB; rw [List.length_append, List.length_drop, List.length_take]; omega
theorem cy_splA (hij : i < j) (hj : j < L.length) {t : Nat} (ht : t ≤ j - i) : cy (splA L i j) t = cy L (i + t) := by
  unfold cy
  rw [splA_len hij hj, Nat.mod_eq_of_lt (by omega), Nat.mod_eq_of_lt (by omega), getD_at (by rw [splA_len hij hj]; omega), getD_at (by omega)]
  unfold splA
  rw [List.getElem_take, List.getElem_drop]
theorem cy_splA_end (hij : i < j) (hj : j < L.length) : cy (splA L i j) (j - i + 1) = cy L i := by
  have := cy_add (L := splA L i j) 0
  rw [splA_len hij hj, Nat.zero_add] at this
  rw [this, cy_splA hij hj (Nat.zero_le _)]
  rfl
theorem cy_splB (hij : i < j) (hj : j < L.length) {t : Nat} (ht : t ≤ L.length - j + i) : cy (splB L i j) t = cy L (j + t) := by
  unfold cy
  rw [splB_len hij hj, Nat.mod_eq_of_lt (a := t) (by omega), getD_at (by rw [splB_len hij hj]; omega)]
  unfold splB
  by_cases hlt : t < L.length - j
  · rw [Nat.mod_eq_of_lt (by omega), getD_at (by omega), List.getElem_append_left (by rw [List.length_drop]; omega), List.getElem_drop]
  · have e : (j + t) % L.length = t - (L.length - j) := by rw [Nat.mod_eq_sub_mod (by omega), Nat.mod_eq_of_lt (by omega)]; omega
    rw [e, getD_at (by omega), List.getElem_append_right (by rw [List.length_drop]; omega), List.getElem_take]
    congr 1
    rw [List.length_drop]
theorem cy_splB_end (hij : i < j) (hj : j < L.length) : cy (splB L i j) (L.length - j + i + 1) = cy L j := by
  have := cy_add (L := splB L i j) 0
  rw [splB_len hij hj, Nat.zero_add] at this
  rw [this, cy_splB hij hj (Nat.zero_le _)]
  rfl
end

/-- a sum over the sides -/
def ringS (f : P2 → P2 → Int) (L : List P2) : Int := sumF (fun i => f (cy L i) (cy L (i + 1))) L.length
theorem sum_split (g : Nat → Int) (a : Nat) : ∀ b : Nat, sumF g (a + b) = sumF g a + sumF (fun t => g (a + t)) b
  | 0 => by simp [sumF]
  | b + 1 => by
    have h := sum_split g a b
    show sumF g (a + b) + g (a + b) = sumF g a + (sumF (fun t => g (a + t)) b + g (a + b))
    omega
theorem sum_plus (f g : Nat → Int) : ∀ n : Nat, sumF (fun i => f i + g i) n = sumF f n + sumF g n
  | 0 => rfl
  | n + 1 => by have h := sum_plus f g n; show sumF (fun i => f i + g i) n + (f n + g n) = sumF f n + f n + (sumF g n + g n); omega
theorem ring_shift (f : P2 → P2 → Int) (k : Nat) : sumF (fun t => f (cy L (k + t)) (cy L (k + t + 1))) L.length = ringS f L := by
  unfold ringS
  rw [← sum_shift (g := fun i => f (cy L i) (cy L (i + 1))) (n := L.length) (fun i => by
    show f (cy L (i + L.length)) (cy L (i + L.length + 1)) = _
    rw [show i + L.length + 1 = i + 1 + L.length by omega, cy_add, cy_add]) k]
  exact sum_congr (fun t _ => by rw [Nat.add_comm k t])
theorem ring_split (f : P2 → P2 → Int) {i j : Nat} (hij : i < j) (hj : j < L.length) :
    ringS f (splA L i j) + ringS f (splB L i j) = ringS f L + f (cy L j) (cy L i) + f (cy L i) (cy L j) := by
  have hA : ringS f (splA L i j) = sumF (fun t => f (cy L (i + t)) (cy L (i + t + 1))) (j - i) + f (cy L j) (cy L i) := by
    unfold ringS
    rw [splA_len hij hj]
    show sumF _ (j - i) + f (cy (splA L i j) (j - i)) (cy (splA L i j) (j - i + 1)) = _
    rw [cy_splA_end hij hj, cy_splA hij hj (Nat.le_refl _), show i + (j - i) = j by omega]
    congr 1
    exact sum_congr (fun t ht => by rw [cy_splA hij hj (by omega), cy_splA hij hj (by omega), Nat.add_assoc])
  have hB : ringS f (splB L i j) = sumF (fun t => f (cy L (j + t)) (cy L (j + t + 1))) (L.length - j + i) + f (cy L i) (cy L j) := by
    unfold ringS
    rw [splB_len hij hj]
    show sumF _ (L.length - j + i) + f (cy (splB L i j) (L.length - j + i)) (cy (splB L i j) (L.length - j + i + 1)) = _
    have e : cy L (j + (L.length - j + i)) = cy L i := by rw [show j + (L.length - j + i) = i + L.length by omega, cy_add]
    rw [cy_splB_end hij hj, cy_splB hij hj (Nat.le_refl _), e]
    congr 1
    exact sum_congr (fun t ht => by rw [cy_splB hij hj (by omega), cy_splB hij hj (by omega), Nat.add_assoc])
  have hL := ring_shift (L := L) f i
  rw [show L.length = (j - i) + (L.length - j + i) by omega, sum_split] at hL
  have e2 : sumF (fun t => f (cy L (i + (j - i + t))) (cy L (i + (j - i + t) + 1))) (L.length - j + i) = sumF (fun t => f (cy L (j + t)) (cy L (j + t + 1))) (L.length - j + i) :=
    sum_congr (fun t _ => by rw [show i + (j - i + t) = j + t by omega])
  rw [e2] at hL
  omega
theorem area_ring : areaL L = ringS crP L := rfl
theorem edge_ring : edgeL L = ringS gapP L := rfl
theorem area_split {i j : Nat} (hij : i < j) (hj : j < L.length) : areaL (splA L i j) + areaL (splB L i j) = areaL L := by
  have := ring_split crP (L := L) hij hj
  have h := crP_swap (cy L j) (cy L i)
  rw [area_ring, area_ring, area_ring]
  omega
theorem gapP_swap (a b : P2) : gapP a b = gapP b a := by
  unfold gapP
  rw [show b.1 - a.1 = -(a.1 - b.1) by omega, show b.2 - a.2 = -(a.2 - b.2) by omega, Int.gcd_neg, Int.neg_gcd]
theorem edge_split {i j : Nat} (hij : i < j) (hj : j < L.length) : edgeL (splA L i j) + edgeL (splB L i j) = edgeL L + 2 * gapP (cy L i) (cy L j) := by
  have := ring_split gapP (L := L) hij hj
  have h := gapP_swap (cy L j) (cy L i)
  rw [edge_ring, edge_ring, edge_ring]
  omega

/-- areas and points on the sides are both even or both odd -/
def pz (p : P2) : Int := if p.1 % 2 = 0 ∧ p.2 % 2 = 0 then 1 else 0
theorem two_dvd_gcd (x y : Int) : (Int.gcd x y : Int) % 2 = 0 ↔ x % 2 = 0 ∧ y % 2 = 0 := by
  constructor
  · intro h
    have h1 := Int.gcd_dvd_left x y
    have h2 := Int.gcd_dvd_right x y
    have h0 : (2 : Int) ∣ (Int.gcd x y : Int) := Int.dvd_of_emod_eq_zero h
    exact ⟨Int.emod_eq_zero_of_dvd (Int.dvd_trans h0 h1), Int.emod_eq_zero_of_dvd (Int.dvd_trans h0 h2)⟩
  · rintro ⟨h1, h2⟩
    exact Int.emod_eq_zero_of_dvd (Int.dvd_coe_gcd (Int.dvd_of_emod_eq_zero h1) (Int.dvd_of_emod_eq_zero h2))
theorem mul_two (x y : Int) : (x * y) % 2 = if x % 2 = 0 ∨ y % 2 = 0 then 0 else 1 := by
  rw [Int.mul_emod]
  rcases Int.emod_two_eq x with h | h <;> rcases Int.emod_two_eq y with h' | h' <;> rw [h, h'] <;> simp
theorem par_side (a b : P2) : (crP a b - gapP a b - pz a - pz b) % 2 = 0 := by
  have h1 := two_dvd_gcd (b.1 - a.1) (b.2 - a.2)
  have h2 := mul_two a.1 b.2
  have h3 := mul_two a.2 b.1
  unfold crP Pt.cr gapP pz
  generalize (Int.gcd (b.1 - a.1) (b.2 - a.2) : Int) = g at *
  generalize a.1 * b.2 = m at *
  generalize a.2 * b.1 = n at *
  rcases Int.emod_two_eq a.1 with q1 | q1 <;> rcases Int.emod_two_eq a.2 with q2 | q2 <;> rcases Int.emod_two_eq b.1 with q3 | q3 <;> rcases Int.emod_two_eq b.2 with q4 | q4 <;>
    simp [q1, q2, q3, q4] at h2 h3 ⊢ <;> omega
theorem sum_even {f : Nat → Int} (h : ∀ i, f i % 2 = 0) : ∀ n : Nat, sumF f n % 2 = 0
  | 0 => rfl
  | n + 1 => by have h1 := sum_even h n; have h2 := h n; show (sumF f n + f n) % 2 = 0; omega
theorem par_all (_h : 0 < L.length) : (areaL L - edgeL L) % 2 = 0 := by
  have h1 := sum_even (f := fun i => crP (cy L i) (cy L (i + 1)) - gapP (cy L i) (cy L (i + 1)) - pz (cy L i) - pz (cy L (i + 1))) (fun i => par_side _ _) L.length
  have e : ∀ n : Nat, sumF (fun i => crP (cy L i) (cy L (i + 1)) - gapP (cy L i) (cy L (i + 1)) - pz (cy L i) - pz (cy L (i + 1))) n
      = sumF (fun i => crP (cy L i) (cy L (i + 1))) n - sumF (fun i => gapP (cy L i) (cy L (i + 1))) n - sumF (fun i => pz (cy L i)) n - sumF (fun i => pz (cy L (i + 1))) n := by
    intro n
    induction n with
    | zero => rfl
    | succ n ih => simp only [sumF]; omega
  rw [e] at h1
  have h2 := sum_shift (g := fun i => pz (cy L i)) (n := L.length) (fun i => by show pz (cy L (i + L.length)) = _; rw [cy_add]) 1
  unfold areaL edgeL
  omega
theorem inside_eq (h : parV L = true) : 2 * insideL L = areaL L - edgeL L + 2 := by
  have hp := par_all (L := L) (by have := okP_len (parV_ok h); omega)
  have ha := parV_area h
  unfold insideL
  rw [Int.natAbs_of_nonneg (by omega)]
  obtain ⟨k, hk⟩ : ∃ k, areaL L - edgeL L + 2 = 2 * k := ⟨(areaL L - edgeL L + 2) / 2, by omega⟩
  rw [hk, Int.mul_tdiv_cancel_left _ (by decide)]
theorem inside_split {i j : Nat} (hij : i < j) (hj : j < L.length) (h : parV L = true) (ha : parV (splA L i j) = true) (hb : parV (splB L i j) = true) :
    insideL (splA L i j) + insideL (splB L i j) + gapP (cy L i) (cy L j) - 1 = insideL L := by
  have h1 := inside_eq h; have h2 := inside_eq ha; have h3 := inside_eq hb
  have h4 := area_split (L := L) hij hj
  have h5 := edge_split (L := L) hij hj
  omega

theorem clash_same {i k : Nat} (h : cy L i = cy L k) (_hik : i < k) : clash L i k = true := by
  have e1 : onP (cy L k) (cy L (k + 1)) (cy L i) = true := by rw [h]; exact onP_end _ _
  have e2 : onP (cy L i) (cy L (i + 1)) (cy L k) = true := by rw [← h]; exact onP_end _ _
  unfold clash
  split
  · rw [e1, Bool.or_true]
  · split
    · rw [e2, Bool.or_true]
    · unfold meet touch
      rw [e2]
      simp
theorem corner_one (h : simple L = true) {i k : Nat} (hi : i < L.length) (hk : k < L.length) (he : cy L i = cy L k) : i = k := by
  rcases Nat.lt_trichotomy i k with h1 | h1 | h1
  · have := simple_at h h1 hk; rw [clash_same he h1] at this; cases this
  · exact h1
  · have := simple_at h h1 hi; rw [clash_same he.symm h1] at this; cases this
theorem corner_mod (h : simple L = true) (h0 : 0 < L.length) {i k : Nat} (he : cy L i = cy L k) : i % L.length = k % L.length :=
  corner_one h (Nat.mod_lt _ h0) (Nat.mod_lt _ h0) (by rw [cy_mod, cy_mod, he])

theorem opp_comm (a b : List P2) (i k : Nat) : oppP a b i k = oppP b a k i := by
  unfold oppP
  rw [Bool.and_comm]
  congr 1 <;> exact decide_eq_decide.2 eq_comm
theorem sum_zero : ∀ n : Nat, sumF (fun _ => 0) n = 0
  | 0 => rfl
  | n + 1 => by show sumF (fun _ => 0) n + 0 = 0; rw [sum_zero n]; rfl
theorem sum_fubini (g : Nat → Nat → Int) (m : Nat) : ∀ n : Nat, sumF (fun i => sumF (fun k => g i k) m) n = sumF (fun k => sumF (fun i => g i k) n) m
  | 0 => (sum_zero m).symm
  | n + 1 => by
    show sumF (fun i => sumF (fun k => g i k) m) n + sumF (fun k => g n k) m = sumF (fun k => sumF (fun i => g i k) n + g n k) m
    rw [sum_plus, sum_fubini g m n]
theorem common_comm (a b : List P2) : commonL a b = commonL b a := by
  unfold commonL comRow
  rw [sum_fubini (fun i k => b2i (oppP a b i k))]
  exact sum_congr (fun k _ => sum_congr (fun i _ => by rw [opp_comm]))
theorem b2i_bd (b : Bool) : 0 ≤ b2i b ∧ b2i b ≤ 1 := by cases b <;> simp [b2i]
theorem count_nn (f : Nat → Bool) : ∀ n : Nat, 0 ≤ sumF (fun i => b2i (f i)) n
  | 0 => Int.le_refl _
  | n + 1 => by have h1 := count_nn f n; have h2 := b2i_bd (f n); show 0 ≤ sumF (fun i => b2i (f i)) n + b2i (f n); omega
theorem count_none {f : Nat → Bool} : ∀ {n : Nat}, (∀ i, i < n → f i = false) → sumF (fun i => b2i (f i)) n = 0
  | 0, _ => rfl
  | n + 1, h => by
    have h1 := count_none (f := f) (n := n) (fun i hi => h i (by omega))
    show sumF (fun i => b2i (f i)) n + b2i (f n) = 0
    rw [h1, h n (by omega)]
    rfl
theorem count_one {f : Nat → Bool} : ∀ {n : Nat}, (∀ i k, i < n → k < n → f i = true → f k = true → i = k) → sumF (fun i => b2i (f i)) n ≤ 1
  | 0, _ => by simp [sumF]
  | n + 1, h => by
    have h1 := count_one (f := f) (n := n) (fun i k hi hk => h i k (by omega) (by omega))
    show sumF (fun i => b2i (f i)) n + b2i (f n) ≤ 1
    cases e : f n with
    | false => show sumF (fun i => b2i (f i)) n + 0 ≤ 1; omega
    | true =>
      rw [count_none (f := f) (n := n) (fun i hi => by
        cases e2 : f i with
        | false => rfl
        | true => have := h i n (by omega) (by omega) e2 e; omega)]
      exact Int.le_refl _
theorem sum_le {f : Nat → Int} {m : Int} : ∀ {n : Nat}, (∀ i, i < n → 0 ≤ f i ∧ f i ≤ m) → 0 ≤ sumF f n ∧ sumF f n ≤ m * n
  | 0, _ => by simp [sumF]
  | n + 1, h => by
    have h1 := sum_le (f := f) (m := m) (n := n) (fun i hi => h i (by omega))
    have h2 := h n (by omega)
    have e : m * ((n + 1 : Nat) : Int) = m * n + m := by rw [Int.natCast_add, Int.mul_add]; simp
    show 0 ≤ sumF f n + f n ∧ sumF f n + f n ≤ m * ((n + 1 : Nat) : Int)
    omega
theorem row_le (a : List P2) {b : List P2} (hb : simple b = true) (i : Nat) : 0 ≤ comRow a b i b.length ∧ comRow a b i b.length ≤ 1 :=
  ⟨count_nn _ _, count_one (fun k k' hk hk' h h' => by
    unfold oppP at h h'
    rw [Bool.and_eq_true, decide_eq_true_eq, decide_eq_true_eq] at h h'
    exact corner_one hb hk hk' (h.2.symm.trans h'.2))⟩
theorem common_le (a : List P2) {b : List P2} (hb : simple b = true) : 0 ≤ commonL a b ∧ commonL a b ≤ a.length := by
  have := sum_le (f := fun i => comRow a b i b.length) (m := 1) (n := a.length) (fun i _ => row_le a hb i)
  unfold commonL
  omega
theorem common_le2 {a b : List P2} (ha : simple a = true) : commonL a b ≤ b.length := by
  rw [common_comm]; exact (common_le b ha).2
theorem row_bd (a b : List P2) (i : Nat) (n : Nat) : 0 ≤ comRow a b i n ∧ comRow a b i n ≤ n := by
  have := sum_le (f := fun k => b2i (oppP a b i k)) (m := 1) (n := n) (fun i _ => b2i_bd _)
  unfold comRow
  omega
theorem sum_none {f : Nat → Int} {n : Nat} (h : ∀ i, i < n → f i = 0) : sumF f n = 0 := (sum_congr (g := fun _ => 0) h).trans (sum_zero n)
theorem common_self (h : polyV L = true) : commonL L L = 0 := by
  obtain ⟨hok, hs⟩ := polyV_parts h
  have hl := okP_len hok
  refine sum_none (fun i hi => count_none (fun k hk => ?_))
  unfold oppP
  rw [Bool.and_eq_false_iff]
  by_cases h1 : cy L i = cy L (k + 1)
  · right
    rw [decide_eq_false_iff_not]
    intro h2
    have e1 := corner_mod hs (by omega) h1
    have e2 := corner_mod hs (by omega) h2
    rw [Nat.mod_eq_of_lt hi] at e1
    rw [Nat.mod_eq_of_lt hk] at e2
    by_cases q : k + 1 = L.length
    · rw [q, Nat.mod_self] at e1
      rw [e1, Nat.mod_eq_of_lt (by omega)] at e2
      omega
    · rw [Nat.mod_eq_of_lt (by omega)] at e1
      rw [e1] at e2
      by_cases q2 : k + 1 + 1 = L.length
      · rw [q2, Nat.mod_self] at e2; omega
      · rw [Nat.mod_eq_of_lt (by omega)] at e2; omega
  · left
    exact decide_eq_false h1
end Poly
