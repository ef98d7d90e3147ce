/-
  Plain facts on greatest common divisors and quotients, with no Go in sight: what QuoValid and QuoOf answer as functions on integers, and that both programs' ways to them agree.
-/
import Derived.Test.YtenllemaccacgabZa
import Derived.Below
import Derived.Deep.RegionWith
import Derived.Deep.Draws
namespace Quo

def qv (t l : Int) : Bool := decide (1 ≤ l ∧ l ≤ 1000000000 ∧ -1000000000 ≤ t ∧ t ≤ 1000000000 ∧ Int.gcd t l = 1)

theorem qv_out {t l : Int} (h : l < 1 ∨ 1000000000 < l ∨ t < -1000000000 ∨ 1000000000 < t) : qv t l = false := by
  unfold qv; simp; omega
theorem qv_in {t l : Int} (h1 : 1 ≤ l) (h2 : l ≤ 1000000000) (h3 : -1000000000 ≤ t) (h4 : t ≤ 1000000000) : qv t l = decide ((Int.gcd t l : Int) = 1) := by
  unfold qv; simp [h1, h2, h3, h4]; omega
theorem qv_true {t l : Int} (h : qv t l = true) : 1 ≤ l ∧ l ≤ 1000000000 ∧ -1000000000 ≤ t ∧ t ≤ 1000000000 ∧ Int.gcd t l = 1 := by
  unfold qv at h; simpa using h

/-- one step of Euclid's way, on signed numbers -/
theorem gcd_step (a b : Int) : Int.gcd b (a.tmod b) = Int.gcd a b := by
  rw [Int.gcd_comm a b]
  have h := Int.tmod_add_mul_tdiv a b
  have : a = a.tmod b + b * a.tdiv b := by omega
  conv => rhs; rw [this]
  rw [Int.gcd_add_mul_left_right]
theorem gcd_zero (a : Int) (h : 0 ≤ a) : (Int.gcd a 0 : Int) = a := by simp; omega
theorem gcd_zero_neg (a : Int) (h : a < 0) : (Int.gcd a 0 : Int) = -a := by simp; omega
theorem tmod_lt (a b : Int) (hb : b ≠ 0) : (a.tmod b).natAbs < b.natAbs := by
  have := Int.natAbs_tmod a b
  rw [this]; exact Nat.mod_lt _ (by omega)
theorem gcd_stepE (a b : Int) : Int.gcd b (a % b) = Int.gcd a b := by
  rw [Int.gcd_comm a b]
  have h := Int.emod_add_mul_ediv a b
  have : a = a % b + b * (a / b) := by omega
  conv => rhs; rw [this]
  rw [Int.gcd_add_mul_left_right]
theorem gcd_abs (t l : Int) : Int.gcd (t.natAbs : Int) l = Int.gcd t l := by simp [Int.gcd]
theorem gcd_pos (a b : Int) (h : b ≠ 0) : 0 < (Int.gcd a b : Int) := by
  have := Int.gcd_pos_of_ne_zero_right a h
  omega
theorem gcd_le (a b : Int) (h : b ≠ 0) : (Int.gcd a b : Int) ≤ b.natAbs := by
  have := Nat.le_of_dvd (by omega) (Int.gcd_dvd_natAbs_right a b)
  omega

/-- the quotient of a by b in lowest terms: what is above, what is below, and whether there is one in range -/
def T (a b : Int) : Int := (if b < 0 then -a else a).tdiv (Int.gcd a b)
def L (a b : Int) : Int := (b.natAbs : Int).tdiv (Int.gcd a b)
def rOk (a b : Int) : Bool := decide (-4000000000000000000 ≤ a ∧ a ≤ 4000000000000000000 ∧ -4000000000000000000 ≤ b ∧ b ≤ 4000000000000000000 ∧ b ≠ 0) && qv (T a b) (L a b)
def rT (a b : Int) : Int := if rOk a b then T a b else 0
def rL (a b : Int) : Int := if rOk a b then L a b else 0
theorem T_pos {a b : Int} (h : 0 < b) : T a b = a.tdiv (Int.gcd a b) := by
  unfold T; rw [if_neg (by omega)]
theorem L_pos {a b : Int} (h : 0 < b) : L a b = b / (Int.gcd a b) := by
  unfold L; rw [Int.tdiv_eq_ediv_of_nonneg (by omega)]
  have : (b.natAbs : Int) = b := by omega
  rw [this]
theorem rOk_in {a b : Int} (ha : -4000000000000000000 ≤ a) (ha' : a ≤ 4000000000000000000) (hb : -4000000000000000000 ≤ b) (hb' : b ≤ 4000000000000000000) (h : b ≠ 0) : rOk a b = qv (T a b) (L a b) := by
  unfold rOk; simp [*]
theorem rOk_out {a b : Int} (h : a < -4000000000000000000 ∨ 4000000000000000000 < a ∨ b < -4000000000000000000 ∨ 4000000000000000000 < b ∨ b = 0) : rOk a b = false := by
  unfold rOk; simp; omega
theorem rT_ok {a b : Int} (h : rOk a b = true) : rT a b = T a b := by unfold rT; simp [h]
theorem rL_ok {a b : Int} (h : rOk a b = true) : rL a b = L a b := by unfold rL; simp [h]
theorem rT_no {a b : Int} (h : rOk a b = false) : rT a b = 0 := by unfold rT; simp [h]
theorem rL_no {a b : Int} (h : rOk a b = false) : rL a b = 0 := by unfold rL; simp [h]
theorem T_neg {a b : Int} (h : b < 0) : T a b = -(a.tdiv (Int.gcd a b)) := by
  unfold T; rw [if_pos h, Int.neg_tdiv]
theorem L_neg {a b : Int} (h : b < 0) : L a b = -(b.tdiv (Int.gcd a b)) := by
  unfold L
  have : (b.natAbs : Int) = -b := by omega
  rw [this, Int.neg_tdiv]
theorem tdiv_lo (a : Int) (g : Int) : (a.tdiv g).natAbs ≤ a.natAbs := by
  rw [Int.natAbs_tdiv]; exact Nat.div_le_self _ _
theorem gcd_absneg (a b : Int) : Int.gcd ((-a).natAbs : Int) (-b) = Int.gcd a b := by simp [Int.gcd]
theorem mul_bd {a b : Int} (h1 : -1000000000 ≤ a) (h2 : a ≤ 1000000000) (h3 : -1000000000 ≤ b) (h4 : b ≤ 1000000000) : -1000000000000000000 ≤ a * b ∧ a * b ≤ 1000000000000000000 := by
  have h := Int.natAbs_mul a b
  have ha : a.natAbs ≤ 1000000000 := by omega
  have hb : b.natAbs ≤ 1000000000 := by omega
  have := Nat.mul_le_mul ha hb
  omega
/-- what a function of two quotients answers: nothing unless both are valid -/
def both (t l s m : Int) : Bool := qv t l && qv s m
def gT (c : Bool) (a b : Int) : Int := if c then rT a b else 0
def gL (c : Bool) (a b : Int) : Int := if c then rL a b else 0
def gOk (c : Bool) (a b : Int) : Bool := c && rOk a b
def sg (n : Int) : Int := if n < 0 then -1 else if 0 < n then 1 else 0
def gS (c : Bool) (n : Int) : Int := if c then sg n else 0
theorem qv_neg (s m : Int) (h1 : -9223372036854775808 ≤ s) (h2 : s ≤ 9223372036854775807) : qv (if s = -9223372036854775808 then s else -s) m = qv s m := by
  split
  · rename_i h; subst h; rfl
  · unfold qv
    rw [Int.neg_gcd]
    apply decide_eq_decide.mpr
    omega
end Quo
namespace Go.Proofs.Ytenllemaccacgab
open Go.RowKit


theorem within_yes (n m : Int) (w : World) (h1 : -m ≤ n) (h2 : n ≤ m) (hm : 0 ≤ m) (hm' : m ≤ 4000000000000000000) :
    Calls Try.prog 39 #[.int .i64 n, .int .i64 m] w fun e w' => e = .returned (.bool true) ∧ w = w' := by
  go_enter Try.func39, Try.ntmps39
  go_wp2
  go_ret
  exact ⟨ret_bool (by simp <;> omega), rfl⟩

theorem within_no (n m : Int) (w : World) (h : n < -m ∨ m < n) (hm : 0 ≤ m) (hm' : m ≤ 4000000000000000000) :
    Calls Try.prog 39 #[.int .i64 n, .int .i64 m] w fun e w' => e = .returned (.bool false) ∧ w = w' := by
  by_cases h1 : -m ≤ n
  · have h2 : ¬ n ≤ m := by omega
    clear h
    go_enter Try.func39, Try.ntmps39
    go_wp2
    go_ret
    exact ⟨ret_bool (by simp <;> omega), rfl⟩
  · clear h
    go_enter Try.func39, Try.ntmps39
    go_wp2
    go_ret
    exact ⟨ret_bool (by simp), rfl⟩

theorem in_yes (n l h : Int) (w : World) (h1 : l ≤ n) (h2 : n ≤ h) :
    Calls Try.prog 31 #[.int .i64 n, .int .i64 l, .int .i64 h] w fun e w' => e = .returned (.bool true) ∧ w = w' := by
  go_enter Try.func31, Try.ntmps31
  go_wp2
  go_ret
  exact ⟨ret_bool (by simp <;> omega), rfl⟩

theorem in_no (n l h : Int) (w : World) (h0 : n < l ∨ h < n) :
    Calls Try.prog 31 #[.int .i64 n, .int .i64 l, .int .i64 h] w fun e w' => e = .returned (.bool false) ∧ w = w' := by
  by_cases h1 : l ≤ n
  · have h2 : ¬ n ≤ h := by omega
    clear h0
    go_enter Try.func31, Try.ntmps31
    go_wp2
    go_ret
    exact ⟨ret_bool (by simp <;> omega), rfl⟩
  · clear h0
    go_enter Try.func31, Try.ntmps31
    go_wp2
    go_ret
    exact ⟨ret_bool (by simp), rfl⟩

end Go.Proofs.Ytenllemaccacgab
namespace Go.Proofs.Ytenllemaccacgab
open Go.RowKit

end Go.Proofs.Ytenllemaccacgab
namespace Go.Proofs.Ytenllemaccacgab
open Go.RowKit

end Go.Proofs.Ytenllemaccacgab
namespace Go.Proofs.Ytenllemaccacgab
open Go.RowKit

end Go.Proofs.Ytenllemaccacgab
namespace Go.Proofs.Ytenllemaccacgab
open Go.RowKit

end Go.Proofs.Ytenllemaccacgab
namespace Go.Proofs.Ytenllemaccacgab
open Go.RowKit

end Go.Proofs.Ytenllemaccacgab
namespace Go.Proofs.Ytenllemaccacgab
open Go.RowKit

end Go.Proofs.Ytenllemaccacgab
namespace Go.Proofs.Ytenllemaccacgab
open Go.RowKit

end Go.Proofs.Ytenllemaccacgab
