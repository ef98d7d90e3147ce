/-
  Plain facts on bearings: which steps are bearings, their quarters, and their order.
-/
import Derived.Test.YtigmhhdbldlgaaaPMath
namespace Pt

def br (x y : Int) : Bool := sv x y && decide (Int.gcd x y = 1)
def qt (x y : Int) : Int := if 0 ≤ x ∧ 0 < y then 0 else if 0 < x then 1 else if y < 0 then 2 else 3
theorem br_true {x y : Int} (h : br x y = true) : sv x y = true ∧ Int.gcd x y = 1 := by unfold br at h; simpa using h
theorem br_mk {x y : Int} (h : sv x y = true) (h1 : Int.gcd x y = 1) : br x y = true := by unfold br; simp [h, h1]
theorem br_nz {x y : Int} (h : br x y = true) : ¬ (x = 0 ∧ y = 0) := by
  rintro ⟨rfl, rfl⟩
  have := (br_true h).2
  simp at this
theorem gcd_pos {x y : Int} (h : ¬ (x = 0 ∧ y = 0)) : (0 : Int) < (Int.gcd x y : Int) := by
  have : 0 < Int.gcd x y := Int.gcd_pos_iff.2 (by omega)
  omega
/-- n right angles clockwise -/
def rot : Nat → Int → Int → Int × Int
  | 0, x, y => (x, y)
  | n + 1, x, y => ((rot n x y).2, -(rot n x y).1)
theorem rot_sv {x y : Int} (h : sv x y = true) : ∀ n, sv (rot n x y).1 (rot n x y).2 = true
  | 0 => h
  | n + 1 => by
    obtain ⟨a, b, c, d⟩ := sv_true (rot_sv h n)
    exact sv_in c d (by show -20000 ≤ -(rot n x y).1; omega) (by show -(rot n x y).1 ≤ 20000; omega)
/-- what BearingOf answers -/
def ofB (x y : Int) : Bool := sv x y && !(x == 0 && y == 0)
def ofX (x y : Int) : Int := if ofB x y then x.tdiv (Int.gcd x y) else 0
def ofY (x y : Int) : Int := if ofB x y then y.tdiv (Int.gcd x y) else 0
theorem ofB_true {x y : Int} (h : ofB x y = true) : sv x y = true ∧ ¬ (x = 0 ∧ y = 0) := by
  unfold ofB at h
  rw [Bool.and_eq_true] at h
  refine ⟨h.1, fun ⟨h1, h2⟩ => ?_⟩
  have := h.2
  subst h1 h2
  simp at this
/-- what BearingLess answers -/
def les (a b c d : Int) : Bool := br a b && br c d && (if qt a b = qt c d then decide (cr a b c d < 0) else decide (qt a b < qt c d))
theorem les_no {a b c d : Int} (h : (br a b && br c d) = false) : les a b c d = false := by unfold les; rw [h]; rfl
theorem les_near {a b c d : Int} (h1 : br a b = true) (h2 : br c d = true) (h : qt a b = qt c d) : les a b c d = decide (cr a b c d < 0) := by unfold les; simp [h1, h2, h]
theorem les_far {a b c d : Int} (h1 : br a b = true) (h2 : br c d = true) (h : ¬ qt a b = qt c d) : les a b c d = decide (qt a b < qt c d) := by unfold les; simp [h1, h2, h]
end Pt
