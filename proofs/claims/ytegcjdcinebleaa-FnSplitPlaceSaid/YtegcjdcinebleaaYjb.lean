/-
  How often a simple closed way winds around a point inside of one of its sides; two sides have no such point in common. No function of the program is named.
-/
import Derived.Test.YtegcjdcinebleaaYja
namespace Poly

/-- two lines of which each parts the other's ends -/
def weak (x y c d : P2) : Prop := ((0 ≤ crs c d x ∧ 0 ≤ crs x y d ∧ crs c d y ≤ 0 ∧ crs x y c ≤ 0) ∨ (crs c d x ≤ 0 ∧ crs x y d ≤ 0 ∧ 0 ≤ crs c d y ∧ 0 ≤ crs x y c)) ∧ crs c d x - crs c d y ≠ 0
theorem crs_four (x y c d : P2) : crs c d x - crs c d y = crs x y d - crs x y c := by unfold crs Pt.cr; grind
theorem weak_meet {x y c d : P2} (h : weak x y c d) : meet x y c d = true := by
  obtain ⟨hs, hn⟩ := h
  have e5 := crs_four x y c d
  have e6 := crs_flip c d x
  have e7 := crs_flip c d y
  have e8 := crs_flip x y c
  have e9 := crs_flip x y d
  unfold meet
  by_cases z1 : crs x y c = 0
  · have : onP x y c = true := on_of (d := d) z1 (by rcases hs with hs | hs <;> omega) (by omega)
    unfold touch; rw [this]; simp
  · by_cases z2 : crs x y d = 0
    · have : onP x y d = true := on_of (d := c) z2 (by rcases hs with hs | hs <;> omega) (by omega)
      unfold touch; rw [this]; simp
    · by_cases z3 : crs c d x = 0
      · have : onP c d x = true := on_of (d := y) z3 (by rcases hs with hs | hs <;> omega) (by omega)
        unfold touch; rw [this]; simp
      · by_cases z4 : crs c d y = 0
        · have : onP c d y = true := on_of (d := x) z4 (by rcases hs with hs | hs <;> omega) (by omega)
          unfold touch; rw [this]; simp
        · rw [parts_of (a := x) (b := y) (c := c) (d := d) (by rcases hs with hs | hs <;> omega), parts_of (a := c) (b := d) (c := x) (d := y) (by rcases hs with hs | hs <;> omega)]
          simp
theorem cell_weak {x y c d : P2} (hz : chi4 (sb c x) (sb d x) (sb d y) (sb c y) ≠ 0) : weak x y c d := by
  obtain ⟨hs, hn⟩ := para_holds (by unfold sb; dsimp only; omega) (by unfold sb; dsimp only; omega) hz
  have e1 : cv (sb c x) (sb d x) = crs c d x := (crs_cv c d x).symm
  have e2 : cv (sb d x) (sb d y) = crs x y d := by unfold crs cv sb Pt.cr; grind
  have e3 : cv (sb d y) (sb c y) = -crs c d y := by rw [cv_anti, ← crs_cv c d y]
  have e4 : cv (sb c y) (sb c x) = -crs x y c := by unfold crs cv sb Pt.cr; grind
  rw [e1, e2, e3, e4] at hs
  rw [e1, e3] at hn
  exact ⟨by rcases hs with hs | hs <;> omega, by omega⟩
/-- x lies inside of the side from X to y -/
def Sub (X y x : P2) : Prop := ∃ N a : Int, 0 < a ∧ a < N ∧ N * (y.1 - x.1) = a * (y.1 - X.1) ∧ N * (y.2 - x.2) = a * (y.2 - X.2)
theorem Sub.flip {X y x : P2} (h : Sub X y x) : Sub y X x := by
  obtain ⟨N, a, h1, h2, h3, h4⟩ := h
  exact ⟨N, N - a, by omega, by omega, by grind, by grind⟩
/-- what a side's inner point makes of the turns -/
theorem Sub.crs {X y x : P2} (h : Sub X y x) : ∃ N a : Int, 0 < a ∧ a < N ∧ (∀ c, N * Poly.crs x y c = a * Poly.crs X y c) ∧ (∀ c d, N * (Poly.crs c d x - Poly.crs c d y) = a * (Poly.crs c d X - Poly.crs c d y)) ∧ Poly.crs X y x = 0 := by
  obtain ⟨N, a, h1, h2, h3, h4⟩ := h
  refine ⟨N, a, h1, h2, fun c => ?_, fun c d => ?_, ?_⟩
  · have e1 : Poly.crs x y c = (y.1 - x.1) * (c.2 - y.2) - (y.2 - x.2) * (c.1 - y.1) := by unfold Poly.crs Pt.cr; grind
    have e2 : Poly.crs X y c = (y.1 - X.1) * (c.2 - y.2) - (y.2 - X.2) * (c.1 - y.1) := by unfold Poly.crs Pt.cr; grind
    rw [e1, e2, Int.mul_sub, ← Int.mul_assoc, ← Int.mul_assoc, h3, h4]
    grind
  · have e1 : Poly.crs c d x - Poly.crs c d y = (d.2 - c.2) * (y.1 - x.1) - (d.1 - c.1) * (y.2 - x.2) := by unfold Poly.crs Pt.cr; grind
    have e2 : Poly.crs c d X - Poly.crs c d y = (d.2 - c.2) * (y.1 - X.1) - (d.1 - c.1) * (y.2 - X.2) := by unfold Poly.crs Pt.cr; grind
    rw [e1, e2, Int.mul_sub, ← Int.mul_assoc, ← Int.mul_assoc, Int.mul_comm N, Int.mul_comm N, Int.mul_assoc, Int.mul_assoc, h3, h4]
    grind
  · have e : N * Poly.crs X y x = 0 := by
      have e1 : Poly.crs X y x = (X.1 - y.1) * (y.2 - x.2) - (X.2 - y.2) * (y.1 - x.1) := by unfold Poly.crs Pt.cr; grind
      rw [e1, Int.mul_sub, ← Int.mul_assoc, ← Int.mul_assoc, Int.mul_comm N, Int.mul_comm N, Int.mul_assoc, Int.mul_assoc, h3, h4]
      grind
    rcases Int.mul_eq_zero.1 e with g | g
    · omega
    · exact g
theorem weak_sub {X y x c d : P2} (hs : Sub X y x) (h : weak x y c d) : weak X y c d := by
  obtain ⟨N, a, ha, hN, h1, h2, -⟩ := hs.crs
  have c1 := h1 c
  have c2 := h1 d
  have c3 := h2 c d
  obtain ⟨hw, hn⟩ := h
  have hne : Poly.crs c d X - Poly.crs c d y ≠ 0 := fun g => by
    rw [g, Int.mul_zero] at c3
    rcases Int.mul_eq_zero.1 c3 with g' | g'
    · omega
    · exact hn g'
  have c4 : a * Poly.crs c d X = N * Poly.crs c d x + (N - a) * (- Poly.crs c d y) := by grind
  refine ⟨?_, hne⟩
  rcases hw with ⟨w1, w2, w3, w4⟩ | ⟨w1, w2, w3, w4⟩
  · left
    refine ⟨pos_of ha ?_, pos_of ha ?_, w3, ?_⟩
    · rw [c4]; have := mul_nn (show 0 ≤ N by omega) w1; have := mul_nn (show 0 ≤ N - a by omega) (show 0 ≤ - Poly.crs c d y by omega); omega
    · rw [← c2]; exact mul_nn (by omega) w2
    · have : 0 ≤ - Poly.crs X y c := pos_of ha (by rw [Int.mul_neg, ← c1]; have := mul_np (show 0 ≤ N by omega) w4; omega)
      omega
  · right
    refine ⟨?_, ?_, w3, pos_of ha ?_⟩
    · have : 0 ≤ - Poly.crs c d X := pos_of ha (by rw [Int.mul_neg, c4]; have := mul_np (show 0 ≤ N by omega) w1; have := mul_np (show 0 ≤ N - a by omega) (show - Poly.crs c d y ≤ 0 by omega); omega)
      omega
    · have : 0 ≤ - Poly.crs X y d := pos_of ha (by rw [Int.mul_neg, ← c2]; have := mul_np (show 0 ≤ N by omega) w2; omega)
      omega
    · rw [← c1]; exact mul_nn (by omega) w4
variable {P : Nat → P2} {n : Nat}
/-- to the left of a side's inner point the way winds as often as to the left of its corners -/
theorem wn_inner (hP : Way P n) (k : Nat) {x : P2} (hx : Sub (P (k + 1)) (P (k + 2)) x) : wn P n x + psi (ed P (k + 1)) = lw P n 0 := by
  obtain ⟨N, a, ha, hN, h1, h2, h3⟩ := hx.crs
  have hfar : ∀ t, 2 ≤ t → t + 2 ≤ n → c4 P x (P (k + 2)) (k + 1 + t) = 0 := fun t ht hn => by
    apply Decidable.byContradiction
    intro g
    have := weak_meet (weak_sub hx (cell_weak g))
    rw [hP.far (k + 1) t ht hn] at this
    cases this
  have hadj : c4 P x (P (k + 2)) k = 0 := by
    apply Decidable.byContradiction
    intro g
    obtain ⟨hw, hn⟩ := cell_weak g
    have e := h2 (P k) (P (k + 1))
    have z : crs (P k) (P (k + 1)) (P (k + 1)) = 0 := by unfold crs Pt.cr; grind
    rw [z] at e
    have e' : N * crs (P k) (P (k + 1)) x = (N - a) * crs (P k) (P (k + 1)) (P (k + 2)) := by grind
    rcases hw with ⟨w1, -, w3, -⟩ | ⟨w1, -, w3, -⟩
    · have m1 := mul_nn (show 0 ≤ N by omega) w1
      have m2 : 0 ≤ crs (P k) (P (k + 1)) (P (k + 2)) := pos_of (show 0 < N - a by omega) (by rw [← e']; exact m1)
      have m3 : crs (P k) (P (k + 1)) (P (k + 2)) = 0 := by omega
      rw [m3, Int.mul_zero] at e'
      rcases Int.mul_eq_zero.1 e' with q | q <;> omega
    · have m1 := mul_np (show 0 ≤ N by omega) w1
      have m2 : 0 ≤ - crs (P k) (P (k + 1)) (P (k + 2)) := pos_of (show 0 < N - a by omega) (by rw [Int.mul_neg, ← e']; omega)
      have m3 : crs (P k) (P (k + 1)) (P (k + 2)) = 0 := by omega
      rw [m3, Int.mul_zero] at e'
      rcases Int.mul_eq_zero.1 e' with q | q <;> omega
  have hd := near hP k x h3 hfar
  rw [hadj] at hd
  obtain ⟨N', a', ha', hN', g1, g2⟩ := hx
  have hsc : chi (sb (P (k + 2)) x) (ed P (k + 2)) = chi (ed P (k + 1)) (ed P (k + 2)) := by
    have e1 : N' * (sb (P (k + 2)) x).2 = a' * (ed P (k + 1)).2 := g2
    have e0 : N' * (sb (P (k + 2)) x).1 = a' * (ed P (k + 1)).1 := g1
    have e2 : N' * cv (sb (P (k + 2)) x) (ed P (k + 2)) = a' * cv (ed P (k + 1)) (ed P (k + 2)) := by
      unfold cv
      rw [Int.mul_sub, ← Int.mul_assoc, ← Int.mul_assoc, e0, e1]
      grind
    have sg : ∀ u v : Int, N' * u = a' * v → (0 < u ↔ 0 < v) ∧ (u < 0 ↔ v < 0) := fun u v e => by
      refine ⟨⟨fun g => ?_, fun g => ?_⟩, ⟨fun g => ?_, fun g => ?_⟩⟩
      · have := mul_sp (show 0 < N' by omega) g; exact spos_of (x := a') (y := v) (by omega) (by rw [← e]; exact this)
      · have := mul_sp ha' g; exact spos_of (show 0 ≤ N' by omega) (by rw [e]; exact this)
      · have := mul_sn (show 0 < N' by omega) g; have := spos_of (x := a') (y := -v) (by omega) (by rw [Int.mul_neg]; omega); omega
      · have := mul_sn ha' g; have := spos_of (x := N') (y := -u) (by omega) (by rw [Int.mul_neg]; omega); omega
    have s1 := sg _ _ e1
    have s2 := sg _ _ e2
    unfold chi
    repeat' split
    all_goals omega
  have hl : wn P n (P (k + 2)) + chi (ed P (k + 1)) (ed P (k + 2)) + psi (ed P (k + 1)) = lw P n 0 := lw_all hP (k + 1)
  rw [hsc] at hd
  omega
end Poly
