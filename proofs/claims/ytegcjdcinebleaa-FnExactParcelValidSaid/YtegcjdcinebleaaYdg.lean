/-
  Places do not depend on the corners' order: simple polygons and places by the corners begun elsewhere and the other way round; what lies west of all corners. No function of the program is named.
-/
import Derived.Test.YtegcjdcinebleaaYde
namespace Poly
variable {L : List P2}

theorem crs_swap (a b p : P2) : crs b a p = - crs a b p := by
  unfold crs Pt.cr
  obtain ⟨a1, a2⟩ := a
  obtain ⟨b1, b2⟩ := b
  obtain ⟨p1, p2⟩ := p
  show (a1 - b1) * (p2 - b2) - (a2 - b2) * (p1 - b1) = -((b1 - a1) * (p2 - a2) - (b2 - a2) * (p1 - a1))
  simp only [Int.sub_mul, Int.mul_sub]
  rw [Int.mul_comm a2 b1, Int.mul_comm b2 a1]
  rw [Int.mul_comm b2 b1, Int.mul_comm a2 a1]
  omega
theorem onP_swap (a b p : P2) : onP b a p = onP a b p := by
  have h := crs_swap a b p
  unfold crs at h
  unfold onP Pt.onB
  have e : (Pt.cr (a.1 - b.1) (a.2 - b.2) (p.1 - b.1) (p.2 - b.2) = 0) ↔ (Pt.cr (b.1 - a.1) (b.2 - a.2) (p.1 - a.1) (p.2 - a.2) = 0) := by rw [h]; omega
  rw [Bool.eq_iff_iff]
  simp only [decide_eq_true_eq, Bool.and_eq_true, Int.min_def, Int.max_def]
  refine and_congr e ?_
  repeat' split
  all_goals omega
theorem east_swap (a b p : P2) : east b a p = east a b p := by
  have h := crs_swap a b p
  unfold east
  rw [h]
  by_cases h1 : a.2 ≤ p.2 ∧ p.2 < b.2
  · have h2 : ¬ (b.2 ≤ p.2 ∧ p.2 < a.2) := by omega
    rw [if_neg h2, if_pos h1, if_pos h1]
    exact decide_eq_decide.2 (by omega)
  · by_cases h2 : b.2 ≤ p.2 ∧ p.2 < a.2
    · rw [if_pos h2, if_neg h1, if_pos h2]
      exact decide_eq_decide.2 (by omega)
    · rw [if_neg h2, if_neg h1, if_neg h1, if_neg h2]
theorem sgn_neg (x : Int) : sgn (-x) = - sgn x := by
  unfold sgn
  repeat' split
  all_goals omega
theorem sd_swap (a b c : P2) : sd b a c = - sd a b c := by unfold sd; rw [crs_swap a b c, sgn_neg]
theorem parts_swap (a b c d : P2) : parts b a d c = parts a b c d := by
  unfold parts
  rw [sd_swap a b d, sd_swap a b c, Int.neg_mul_neg, Int.mul_comm]
theorem meet_swap (a b c d : P2) : meet b a d c = meet a b c d := by
  unfold meet touch
  rw [parts_swap a b c d, parts_swap c d a b, onP_swap a b, onP_swap a b, onP_swap c d, onP_swap c d]
  cases onP a b c <;> cases onP a b d <;> cases onP c d a <;> cases onP c d b <;> rfl
theorem meet_comm (a b c d : P2) : meet c d a b = meet a b c d := by
  unfold meet touch
  rw [Bool.and_comm (parts c d a b)]
  cases onP a b c <;> cases onP a b d <;> cases onP c d a <;> cases onP c d b <;> rfl

/-- the side after the side i folds back on it -/
def fold (L : List P2) (i : Nat) : Bool := onP (cy L i) (cy L (i + 1)) (cy L (i + 2)) || onP (cy L (i + 1)) (cy L (i + 2)) (cy L i)
def far2 (L : List P2) : Prop := (∀ i, i < L.length → fold L i = false) ∧ ∀ i k, i < k → k < L.length → k ≠ i + 1 → ¬ (i = 0 ∧ k + 1 = L.length) → meet (cy L i) (cy L (i + 1)) (cy L k) (cy L (k + 1)) = false
theorem cy_n (i : Nat) (h : L.length ≤ i) : cy L i = cy L (i - L.length) := by
  have := cy_add (L := L) (i - L.length)
  rw [Nat.sub_add_cancel h] at this
  exact this
theorem clash_next (i : Nat) : clash L i (i + 1) = fold L i := by
  unfold clash fold
  rw [if_pos rfl]
theorem clash_last (h3 : 3 ≤ L.length) : clash L 0 (L.length - 1) = fold L (L.length - 1) := by
  unfold clash fold
  have e1 : L.length - 1 + 1 = L.length := by omega
  have e2 : L.length - 1 + 2 = L.length + 1 := by omega
  rw [if_neg (by omega), if_pos (by rw [e1, Nat.mod_self]), e1, e2, cy_n L.length (Nat.le_refl _), Nat.sub_self, cy_n (L.length + 1) (by omega), Nat.add_sub_cancel_left]
theorem clash_far {i k : Nat} (hi : i < k) (hk : k < L.length) (h1 : k ≠ i + 1) (h2 : ¬ (i = 0 ∧ k + 1 = L.length)) : clash L i k = meet (cy L i) (cy L (i + 1)) (cy L k) (cy L (k + 1)) := by
  unfold clash
  rw [if_neg h1, if_neg]
  intro e
  by_cases hl : k + 1 = L.length
  · rw [hl, Nat.mod_self] at e; omega
  · rw [Nat.mod_eq_of_lt (by omega)] at e; omega
theorem simple_far (h3 : 3 ≤ L.length) : simple L = true ↔ far2 L := by
  constructor
  · intro h
    refine ⟨fun i hi => ?_, fun i k hi hk h1 h2 => ?_⟩
    · by_cases hl : i + 1 < L.length
      · rw [← clash_next]; exact simple_at h (by omega) hl
      · have e : i = L.length - 1 := by omega
        rw [e, ← clash_last h3]; exact simple_at h (by omega) (by omega)
    · rw [← clash_far hi hk h1 h2]; exact simple_at h hi hk
  · intro h
    refine simple_of (fun i k hi hk => ?_)
    by_cases h1 : k = i + 1
    · rw [h1, clash_next]; exact h.1 i (by omega)
    · by_cases h2 : i = 0 ∧ k + 1 = L.length
      · rw [h2.1, show k = L.length - 1 by omega, clash_last h3]; exact h.1 _ (by omega)
      · rw [clash_far hi hk h1 h2]; exact h.2 i k hi hk h1 h2
/-- two sides that are not neighbours, in whatever order -/
theorem far2_any (h : far2 L) {i k : Nat} (hi : i < L.length) (hk : k < L.length) (h0 : i ≠ k) (h1 : k ≠ i + 1) (h2 : i ≠ k + 1) (h3 : ¬ (i = 0 ∧ k + 1 = L.length)) (h4 : ¬ (k = 0 ∧ i + 1 = L.length)) :
    meet (cy L i) (cy L (i + 1)) (cy L k) (cy L (k + 1)) = false := by
  by_cases hlt : i < k
  · exact h.2 i k hlt hk h1 h3
  · rw [← meet_comm]; exact h.2 k i (by omega) hi h2 h4
/-- the side's number in a list that begins elsewhere -/
def num (n k i : Nat) : Nat := if i + k < n then i + k else i + k - n
theorem cy_num {k i : Nat} (hk : k < L.length) (hi : i < L.length) (j : Nat) : cy L (i + k + j) = cy L (num L.length k i + j) := by
  unfold num
  split
  · rfl
  · rw [cy_n (i + k + j) (by omega)]; congr 1; omega
theorem beg_cy {k i : Nat} (hk : k < L.length) (hi : i < L.length) (j : Nat) : cy (begL L k) (i + j) = cy L (num L.length k i + j) := by
  rw [cy_beg hk, ← cy_num hk hi]; congr 1; omega
theorem simple_beg (h3 : 3 ≤ L.length) (h : simple L = true) {s : Nat} (hs : s < L.length) : simple (begL L s) = true := by
  have hf := (simple_far h3).1 h
  have hl := beg_len (L := L) (k := s) (by omega)
  refine (simple_far (by omega)).2 ⟨fun i hi => ?_, fun i k hi hk h1 h2 => ?_⟩
  · rw [hl] at hi
    have e0 := beg_cy hs hi 0
    rw [Nat.add_zero, Nat.add_zero] at e0
    unfold fold
    rw [e0, beg_cy hs hi 1, beg_cy hs hi 2]
    have := hf.1 (num L.length s i) (by unfold num; split <;> omega)
    exact this
  · rw [hl] at hk h2
    have e0 := beg_cy hs (show i < L.length by omega) 0
    have e1 := beg_cy hs hk 0
    rw [Nat.add_zero, Nat.add_zero] at e0 e1
    rw [e0, e1, beg_cy hs (show i < L.length by omega) 1, beg_cy hs hk 1]
    refine far2_any hf ?_ ?_ ?_ ?_ ?_ ?_ ?_
    all_goals (unfold num; (repeat' split) <;> omega)
/-- the side's number in the list the other way round -/
theorem back_cy (h : 0 < L.length) {i : Nat} (hi : i < L.length) : cy (backL L) i = cy L (L.length - 1 - i + 1) ∧ cy (backL L) (i + 1) = cy L (L.length - 1 - i) := by
  rw [cy_back2 L h, cy_back2 L h, Nat.mod_eq_of_lt hi]
  refine ⟨by congr 1; omega, ?_⟩
  by_cases hl : i + 1 = L.length
  · rw [hl, Nat.mod_self, cy_n _ (by omega)]; congr 1; omega
  · rw [Nat.mod_eq_of_lt (by omega)]; congr 1; omega
theorem simple_back (h3 : 3 ≤ L.length) (h : simple L = true) : simple (backL L) = true := by
  have hf := (simple_far h3).1 h
  have hl := back_len2 L
  refine (simple_far (by omega)).2 ⟨fun i hi => ?_, fun i k hi hk h1 h2 => ?_⟩
  · rw [hl] at hi
    unfold fold
    rw [(back_cy (by omega) hi).1, (back_cy (by omega) hi).2]
    by_cases hlt : i + 1 < L.length
    · have e := (back_cy (L := L) (by omega) hlt).2
      rw [show i + 1 + 1 = i + 2 by omega] at e
      rw [e]
      have := hf.1 (L.length - 1 - (i + 1)) (by omega)
      unfold fold at this
      rw [show L.length - 1 - (i + 1) + 1 = L.length - 1 - i by omega, show L.length - 1 - (i + 1) + 2 = L.length - 1 - i + 1 by omega] at this
      rw [onP_swap, onP_swap (cy L (L.length - 1 - (i + 1))), Bool.or_comm]
      exact this
    · have hie : i = L.length - 1 := by omega
      have e : cy (backL L) (i + 2) = cy L (L.length - 1) := by
        have := (back_cy (L := L) (by omega) (show 0 < L.length by omega)).2
        rw [cy_n (L := backL L) (i + 2) (by omega), hl, show i + 2 - L.length = 0 + 1 by omega, this]
        rfl
      rw [e, hie, show L.length - 1 - (L.length - 1) = 0 by omega]
      have := hf.1 (L.length - 1) (by omega)
      unfold fold at this
      rw [show L.length - 1 + 1 = L.length by omega, show L.length - 1 + 2 = L.length + 1 by omega, cy_n L.length (Nat.le_refl _), Nat.sub_self, cy_n (L.length + 1) (by omega), Nat.add_sub_cancel_left] at this
      rw [Nat.zero_add, onP_swap (cy L 0) (cy L 1), onP_swap (cy L (L.length - 1)) (cy L 0), Bool.or_comm]
      exact this
  · rw [hl] at hk h2
    rw [(back_cy (by omega) (show i < L.length by omega)).1, (back_cy (by omega) (show i < L.length by omega)).2, (back_cy (by omega) hk).1, (back_cy (by omega) hk).2, meet_swap]
    exact far2_any hf (by omega) (by omega) (by omega) (by omega) (by omega) (by omega) (by omega)
theorem okP_back2 (h : okP L = true) : okP (backL L) = true := by
  have hl := okP_len h
  refine okP_of (by rw [back_len2]; exact hl.1) (by rw [back_len2]; exact hl.2) (fun i hi => ?_)
  rw [cy_back2 L (by omega)]
  exact okP_at h _
theorem polyV_parts (h : polyV L = true) : okP L = true ∧ simple L = true := by unfold polyV at h; rw [Bool.and_eq_true] at h; exact h
theorem polyV_beg (h : polyV L = true) {k : Nat} (hk : k < L.length) : polyV (begL L k) = true := by
  obtain ⟨h1, h2⟩ := polyV_parts h
  unfold polyV
  rw [okP_beg h1 hk, simple_beg (okP_len h1).1 h2 hk]
  rfl
theorem polyV_back (h : polyV L = true) : polyV (backL L) = true := by
  obtain ⟨h1, h2⟩ := polyV_parts h
  unfold polyV
  rw [okP_back2 h1, simple_back (okP_len h1).1 h2]
  rfl

theorem odd_congr {f g : Nat → Bool} : ∀ {n : Nat}, (∀ i, i < n → f i = g i) → oddF f n = oddF g n
  | 0, _ => rfl
  | n + 1, h => by unfold oddF; rw [odd_congr (fun i hi => h i (by omega)), h n (by omega)]
theorem odd_head (g : Nat → Bool) : ∀ n : Nat, oddF g (n + 1) = xor (g 0) (oddF (fun i => g (i + 1)) n)
  | 0 => by simp [oddF]
  | n + 1 => by
    have h := odd_head g n
    have e1 : oddF g (n + 1 + 1) = xor (oddF g (n + 1)) (g (n + 1)) := rfl
    have e2 : oddF (fun i => g (i + 1)) (n + 1) = xor (oddF (fun i => g (i + 1)) n) (g (n + 1)) := rfl
    rw [e1, e2, h, Bool.xor_assoc]
theorem odd_rev (g : Nat → Bool) : ∀ n : Nat, oddF (fun i => g (n - 1 - i)) n = oddF g n
  | 0 => rfl
  | n + 1 => by
    rw [odd_head, odd_congr (g := fun i => g (n - 1 - i)) (fun i hi => by show g _ = g _; congr 1; omega), odd_rev g n]
    show xor (g (n + 1 - 1 - 0)) (oddF g n) = xor (oddF g n) (g n)
    rw [show n + 1 - 1 - 0 = n by omega, Bool.xor_comm]
theorem odd_shift {g : Nat → Bool} {n : Nat} (h : ∀ i, g (i + n) = g i) : ∀ k : Nat, oddF (fun i => g (i + k)) n = oddF g n
  | 0 => rfl
  | k + 1 => by
    have h1 := odd_shift h k
    have h2 := odd_head (fun i => g (i + k)) n
    have h3 : oddF (fun i => g (i + k)) (n + 1) = xor (oddF (fun i => g (i + k)) n) (g (n + k)) := rfl
    have h4 : g (n + k) = g (0 + k) := by rw [Nat.add_comm n k, h k, Nat.zero_add]
    have h5 : oddF (fun i => g (i + 1 + k)) n = oddF (fun i => g (i + (k + 1))) n := odd_congr (fun i _ => by congr 1; omega)
    rw [← h5, ← h1]
    rw [h3, h4] at h2
    revert h2
    generalize oddF (fun i => g (i + k)) n = x
    generalize oddF (fun i => g (i + 1 + k)) n = y
    cases x <;> cases y <;> cases g (0 + k) <;> simp
theorem any_same {f g : Nat → Bool} {n m : Nat} (h : ∀ i, i < n → f i = true → ∃ j, j < m ∧ g j = true) (h' : ∀ i, i < m → g i = true → ∃ j, j < n ∧ f j = true) : anyF f n = anyF g m := by
  rw [Bool.eq_iff_iff]
  constructor
  · intro e
    obtain ⟨i, hi, e⟩ := anyF_get e
    obtain ⟨j, hj, e⟩ := h i hi e
    exact anyF_of hj e
  · intro e
    obtain ⟨i, hi, e⟩ := anyF_get e
    obtain ⟨j, hj, e⟩ := h' i hi e
    exact anyF_of hj e
theorem place_beg {k : Nat} (hk : k < L.length) (p : P2) : placeL (begL L k) p = placeL L p := by
  have e1 : onL (begL L k) p = onL L p := by
    unfold onL
    rw [beg_len (by omega)]
    refine any_same (fun i hi h => ⟨num L.length k i, by unfold num; split <;> omega, ?_⟩) (fun i hi h => ⟨if k ≤ i then i - k else i + L.length - k, by split <;> omega, ?_⟩)
    · have e0 := beg_cy hk hi 0
      rw [Nat.add_zero, Nat.add_zero] at e0
      rw [e0, beg_cy hk hi 1] at h
      exact h
    · have hj : (if k ≤ i then i - k else i + L.length - k) < L.length := by split <;> omega
      have e0 := beg_cy hk hj 0
      rw [Nat.add_zero, Nat.add_zero] at e0
      have hn : num L.length k (if k ≤ i then i - k else i + L.length - k) = i := by unfold num; repeat' split
                                                                                     all_goals omega
      rw [hn] at e0
      rw [e0, beg_cy hk hj 1, hn]
      exact h
  have e2 : oddL (begL L k) p = oddL L p := by
    unfold oddL
    rw [beg_len (by omega)]
    rw [← odd_shift (g := fun i => east (cy L i) (cy L (i + 1)) p) (n := L.length) (fun i => by
      show east (cy L (i + L.length)) (cy L (i + L.length + 1)) p = _
      rw [show i + L.length + 1 = i + 1 + L.length by omega, cy_add, cy_add]) k]
    refine odd_congr (fun i _ => ?_)
    rw [cy_beg hk, cy_beg hk, show i + 1 + k = i + k + 1 by omega]
  unfold placeL
  rw [e1, e2]
theorem place_back (h : 0 < L.length) (p : P2) : placeL (backL L) p = placeL L p := by
  have e1 : onL (backL L) p = onL L p := by
    unfold onL
    rw [back_len2]
    refine any_same (fun i hi h' => ⟨L.length - 1 - i, by omega, ?_⟩) (fun i hi h' => ⟨L.length - 1 - i, by omega, ?_⟩)
    · rw [(back_cy h hi).1, (back_cy h hi).2, onP_swap] at h'
      exact h'
    · have hj : L.length - 1 - i < L.length := by omega
      rw [(back_cy h hj).1, (back_cy h hj).2, show L.length - 1 - (L.length - 1 - i) = i by omega, onP_swap]
      exact h'
  have e2 : oddL (backL L) p = oddL L p := by
    unfold oddL
    rw [back_len2, ← odd_rev (fun i => east (cy L i) (cy L (i + 1)) p)]
    refine odd_congr (fun i hi => ?_)
    rw [(back_cy h hi).1, (back_cy h hi).2, east_swap]
  unfold placeL
  rw [e1, e2]
theorem onP_end (a b : P2) : onP a b a = true := by
  unfold onP Pt.onB
  have : Pt.cr (b.1 - a.1) (b.2 - a.2) (a.1 - a.1) (a.2 - a.2) = 0 := by unfold Pt.cr; simp
  simp only [this, decide_eq_true_eq, Bool.and_eq_true, Int.min_def, Int.max_def]
  refine ⟨trivial, ?_⟩
  repeat' split
  all_goals omega
theorem place_corner {k : Nat} (hk : k < L.length) : placeL L (cy L k) = 0 := by
  have : onL L (cy L k) = true := anyF_of hk (onP_end _ _)
  unfold placeL
  rw [if_pos this]
theorem east_west {a b p : P2} (ha : p.1 < a.1) (hb : p.1 < b.1) : east a b p = xor (decide (a.2 ≤ p.2)) (decide (b.2 ≤ p.2)) := by
  have key : ∀ a b : P2, p.1 < a.1 → p.1 < b.1 → a.2 ≤ p.2 → p.2 < b.2 → 0 < crs a b p := by
    intro a b ha hb h1 h2
    have x1 : 0 < (b.2 - p.2) * (a.1 - p.1) := Int.mul_pos (by omega) (by omega)
    have x2 : 0 ≤ (p.2 - a.2) * (b.1 - p.1) := Int.mul_nonneg (by omega) (by omega)
    have e : crs a b p = (b.2 - p.2) * (a.1 - p.1) + (p.2 - a.2) * (b.1 - p.1) := by
      unfold crs Pt.cr
      obtain ⟨a1, a2⟩ := a
      obtain ⟨b1, b2⟩ := b
      obtain ⟨p1, p2⟩ := p
      show (b1 - a1) * (p2 - a2) - (b2 - a2) * (p1 - a1) = (b2 - p2) * (a1 - p1) + (p2 - a2) * (b1 - p1)
      simp only [Int.sub_mul, Int.mul_sub]
      rw [Int.mul_comm b1 p2, Int.mul_comm b1 a2, Int.mul_comm a1 p2, Int.mul_comm a1 a2]
      omega
    omega
  unfold east
  by_cases h1 : a.2 ≤ p.2
  · by_cases h2 : b.2 ≤ p.2
    · rw [if_neg (by omega), if_neg (by omega)]
      simp [h1, h2]
    · rw [if_pos ⟨h1, by omega⟩]
      have := key a b ha hb h1 (by omega)
      simp [h1, h2, this]
  · by_cases h2 : b.2 ≤ p.2
    · rw [if_neg (by omega), if_pos ⟨h2, by omega⟩]
      have := key b a hb ha h2 (by omega)
      rw [crs_swap a b p] at this
      have h3 : crs a b p < 0 := by omega
      simp [h1, h2, h3]
    · rw [if_neg (by omega), if_neg (by omega)]
      simp [h1, h2]
theorem odd_tele (u : Nat → Bool) : ∀ n : Nat, oddF (fun i => xor (u i) (u (i + 1))) n = xor (u 0) (u n)
  | 0 => by simp [oddF]
  | n + 1 => by
    show xor (oddF (fun i => xor (u i) (u (i + 1))) n) (xor (u n) (u (n + 1))) = _
    rw [odd_tele u n]
    cases u 0 <;> cases u n <;> cases u (n + 1) <;> rfl
theorem place_west {p : P2} (h0 : 0 < L.length) (h : ∀ i, i < L.length → p.1 < (cy L i).1) : placeL L p = -1 := by
  have ha : ∀ i, p.1 < (cy L i).1 := fun i => by rw [← cy_mod]; exact h _ (Nat.mod_lt _ h0)
  have e1 : onL L p = false := by
    refine anyF_false (fun i hi => ?_)
    have h1 := ha i
    have h2 := ha (i + 1)
    unfold onP Pt.onB
    rw [Bool.eq_false_iff]
    intro e
    simp only [decide_eq_true_eq, Bool.and_eq_true, Int.min_def] at e
    have e2 := e.2.1
    split at e2 <;> omega
  have e2 : oddL L p = false := by
    unfold oddL
    rw [odd_congr (g := fun i => xor (decide ((cy L i).2 ≤ p.2)) (decide ((cy L (i + 1)).2 ≤ p.2))) (fun i _ => east_west (ha i) (ha (i + 1))), odd_tele (fun i => decide ((cy L i).2 ≤ p.2)) L.length]
    show xor (decide ((cy L 0).2 ≤ p.2)) (decide ((cy L L.length).2 ≤ p.2)) = false
    rw [cy_n L.length (Nat.le_refl _), Nat.sub_self]
    exact Bool.xor_self _
  unfold placeL
  rw [e1, e2]
  rfl
end Poly
