/-
  Texts of bearings, with no Go in sight: different ones for a bearing turned by one, two or three right angles, and none empty.
-/
import Derived.Test.YtigmhhdbldlgaaaDoorBText
namespace Go.Proofs.YtigmhhdbldlgaaaDoor
open Go.RowKit

theorem dec_range (n : Nat) : ∀ c ∈ Lib.decDigits n, 48 ≤ c.toNat ∧ c.toNat ≤ 57 := by
  induction n using Nat.strongRecOn with
  | _ n ih =>
    intro c hc
    rw [Lib.decDigits] at hc
    split at hc
    · rename_i h
      simp at hc
      subst hc
      rw [UInt8.toNat_add, UInt8.toNat_ofNat']
      simp
      omega
    · rename_i h
      simp at hc
      rcases hc with hc | hc
      · exact ih (n / 10) (by omega) c hc
      · subst hc
        rw [UInt8.toNat_add, UInt8.toNat_ofNat']
        simp
        omega
theorem itoa_digits {n : Int} (h : 0 ≤ n) : ∀ c ∈ Lib.itoa n, c.toNat ≤ 57 := by
  intro c hc
  unfold Lib.itoa at hc
  rw [if_neg (by omega)] at hc
  exact (dec_range _ c hc).2
/-- what stands behind digits -/
theorem cut_eq : ∀ {x x' y y' : List UInt8} {c c' : UInt8}, (∀ d ∈ x, d.toNat ≤ 57) → (∀ d ∈ x', d.toNat ≤ 57) → 57 < c.toNat → 57 < c'.toNat → x ++ c :: y = x' ++ c' :: y' → c = c'
  | [], [], _, _, _, _, _, _, _, _, e => by simp at e; exact e.1
  | [], d :: x', _, _, c, c', _, h2, h3, _, e => by
    simp at e
    have := h2 d (by simp)
    rw [← e.1] at this; omega
  | d :: x, [], _, _, c, c', h1, _, _, h4, e => by
    simp at e
    have := h1 d (by simp)
    rw [e.1] at this; omega
  | d :: x, d' :: x', y, y', c, c', h1, h2, h3, h4, e => by
    simp at e
    exact cut_eq (fun z hz => h1 z (by simp [hz])) (fun z hz => h2 z (by simp [hz])) h3 h4 e.2

/-- a text in its parts: its first letter, and for two coordinates its second one behind digits -/
theorem bt_xy {x y : Int} (h : Pt.br x y = true) (hx : ¬ x = 0) (hy : ¬ y = 0) : ∃ (c : UInt8) (d l : List UInt8) (c' : UInt8), btext x y = c :: (d ++ c' :: l) ∧ (∀ z ∈ d, z.toNat ≤ 57) ∧ 57 < c'.toNat ∧ c = (if y < 0 then 83 else 78) ∧ c' = (if x < 0 then 87 else 69) := by
  rw [btext_xy h hx hy]
  refine ⟨if y < 0 then 83 else 78, Lib.itoa y.natAbs, Lib.itoa x.natAbs, if x < 0 then 87 else 69, ?_, itoa_digits (by omega), ?_, rfl, rfl⟩
  · unfold ns ew
    by_cases h1 : y < 0 <;> by_cases h2 : x < 0 <;> simp [h1, h2]
  · by_cases h2 : x < 0 <;> simp [h2]
theorem br_rot {x y : Int} (h : Pt.br x y = true) : ∀ n, Pt.br (Pt.rot n x y).1 (Pt.rot n x y).2 = true
  | 0 => h
  | n + 1 => by
    obtain ⟨h1, h2⟩ := Pt.br_true (br_rot h n)
    refine Pt.br_mk (Pt.rot_sv (Pt.br_true h).1 (n + 1)) ?_
    show Int.gcd (Pt.rot n x y).2 (-(Pt.rot n x y).1) = 1
    rw [Int.gcd_neg, Int.gcd_comm]; exact h2
theorem bt_one {x y u v : Int} (h : Pt.br x y = true) (h' : Pt.br u v = true) (hx : ¬ x = 0) (hy : ¬ y = 0) (hu : ¬ u = 0) (hv : ¬ v = 0) (e : btext x y = btext u v) : (y < 0 ↔ v < 0) ∧ (x < 0 ↔ u < 0) := by
  obtain ⟨c, d, l, c', e1, d1, k1, m1, m2⟩ := bt_xy h hx hy
  obtain ⟨g, f, l2, g', e2, d2, k2, q1, q2⟩ := bt_xy h' hu hv
  rw [e1, e2] at e
  simp only [List.cons.injEq] at e
  have e3 := cut_eq d1 d2 k1 k2 e.2
  have e4 := e.1
  rw [m1, q1] at e4
  rw [m2, q2] at e3
  constructor
  · by_cases a1 : y < 0 <;> by_cases a2 : v < 0 <;> simp [a1, a2] at e4 ⊢
  · by_cases a1 : x < 0 <;> by_cases a2 : u < 0 <;> simp [a1, a2] at e3 ⊢
theorem bt_ne {x y : Int} (h : Pt.br x y = true) : btext x y ≠ [] := by
  by_cases hx : x = 0
  · subst hx; rw [btext_x0 h]; unfold ns; split <;> simp
  · by_cases hy : y = 0
    · subst hy; rw [btext_y0 h hx]; unfold ew; split <;> simp
    · obtain ⟨c, d, l, c', e1, _⟩ := bt_xy h hx hy
      rw [e1]; simp
theorem bt_turned {x y : Int} (h : Pt.br x y = true) {n : Nat} (h1 : 1 ≤ n) (h3 : n < 4) : btext (Pt.rot n x y).1 (Pt.rot n x y).2 ≠ btext x y := by
  have hb := br_rot h n
  have hnz := Pt.br_nz h
  intro e
  rcases (show n = 1 ∨ n = 2 ∨ n = 3 by omega) with rfl | rfl | rfl
  · simp only [Pt.rot] at e hb
    by_cases hx : x = 0
    · subst hx
      have hy : ¬ y = 0 := by omega
      simp only [Int.neg_zero] at e hb
      rw [btext_x0 h, btext_y0 hb hy] at e
      unfold ns ew at e
      split at e <;> (try split at e) <;> simp at e
    · by_cases hy : y = 0
      · subst hy
        rw [btext_y0 h hx, btext_x0 hb] at e
        unfold ns ew at e
        split at e <;> (try split at e) <;> simp at e
      · have := bt_one hb h hy (by omega) hx hy e
        omega
  · simp only [Pt.rot] at e hb
    by_cases hx : x = 0
    · subst hx
      simp only [Int.neg_zero] at e hb
      rw [btext_x0 h, btext_x0 hb] at e
      unfold ns at e
      have hy : ¬ y = 0 := by omega
      split at e <;> (try split at e) <;> simp at e
      · omega
      · omega
    · by_cases hy : y = 0
      · subst hy
        simp only [Int.neg_zero] at e hb
        rw [btext_y0 h hx, btext_y0 hb (by omega)] at e
        unfold ew at e
        split at e <;> (try split at e) <;> simp at e
        · omega
        · omega
      · have := bt_one hb h (by omega) (by omega) hx hy e
        omega
  · simp only [Pt.rot] at e hb
    by_cases hx : x = 0
    · subst hx
      have hy : ¬ y = 0 := by omega
      simp only [Int.neg_zero] at e hb
      rw [btext_x0 h, btext_y0 hb (by omega)] at e
      unfold ns ew at e
      split at e <;> (try split at e) <;> simp at e
    · by_cases hy : y = 0
      · subst hy
        simp only [Int.neg_zero, Int.neg_neg] at e hb
        rw [btext_y0 h hx, btext_x0 hb] at e
        unfold ns ew at e
        split at e <;> (try split at e) <;> simp at e
      · have := bt_one hb h (by omega) (by omega) hx hy e
        omega
end Go.Proofs.YtigmhhdbldlgaaaDoor
