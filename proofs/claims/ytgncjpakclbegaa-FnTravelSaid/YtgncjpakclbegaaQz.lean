/-
  Plain facts on greatest common divisors and quotients, with no Go in sight: what QuoValid and QuoOf answer as functions on integers, and that both programs' ways to them agree.
-/
import Derived.Test.YtgncjpakclbegaaZa
import Derived.Below
import Derived.Deep.RegionWith
import Derived.Deep.Draws
namespace Quo

def qv (t l : Int) : Bool := decide (1 ≤ l ∧ l ≤ 1000000000 ∧ -1000000000 ≤ t ∧ t ≤ 1000000000 ∧ Int.gcd t l = 1)

theorem qv_out {t l : Int} (h : l < 1 ∨ 1000000000 < l ∨ t < -1000000000 ∨ 1000000000 < t) : qv t l = false := by
  unfold qv; simp; omega
theorem qv_in {t l : Int} (h1 : 1 ≤ l) (h2 : l ≤ 1000000000) (h3 : -1000000000 ≤ t) (h4 : t ≤ 1000000000) : qv t l = decide ((Int.gcd t l : Int) = 1) := by
  unfold qv; simp [h1, h2, h3, h4]; omega
theorem qv_true {t l : Int} (h : qv t l = true) : 1 ≤ l ∧ l ≤ 1000000000 ∧ -1000000000 ≤ t ∧ t ≤ 1000000000 ∧ Int.gcd t l = 1 := by
  unfold qv at h; simpa using h

/-- one step of Euclid's way, on signed numbers -/
theorem gcd_step (a b : Int) : Int.gcd b (a.tmod b) = Int.gcd a b := by
  rw [Int.gcd_comm a b]
  have h := Int.tmod_add_mul_tdiv a b
  have : a = a.tmod b + b * a.tdiv b := by omega
  conv => rhs; rw [this]
  rw [Int.gcd_add_mul_left_right]
theorem gcd_zero (a : Int) (h : 0 ≤ a) : (Int.gcd a 0 : Int) = a := by simp; omega
theorem gcd_zero_neg (a : Int) (h : a < 0) : (Int.gcd a 0 : Int) = -a := by simp; omega
theorem tmod_lt (a b : Int) (hb : b ≠ 0) : (a.tmod b).natAbs < b.natAbs := by
  have := Int.natAbs_tmod a b
  rw [this]; exact Nat.mod_lt _ (by omega)
theorem gcd_stepE (a b : Int) : Int.gcd b (a % b) = Int.gcd a b := by
  rw [Int.gcd_comm a b]
  have h := Int.emod_add_mul_ediv a b
  have : a = a % b + b * (a / b) := by omega
  conv => rhs; rw [this]
  rw [Int.gcd_add_mul_left_right]
theorem gcd_abs (t l : Int) : Int.gcd (t.natAbs : Int) l = Int.gcd t l := by simp [Int.gcd]
theorem gcd_pos (a b : Int) (h : b ≠ 0) : 0 < (Int.gcd a b : Int) := by
  have := Int.gcd_pos_of_ne_zero_right a h
  omega
theorem gcd_le (a b : Int) (h : b ≠ 0) : (Int.gcd a b : Int) ≤ b.natAbs := by
  have := Nat.le_of_dvd (by omega) (Int.gcd_dvd_natAbs_right a b)
  omega

/-- the quotient of a by b in lowest terms: what is above, what is below, and whether there is one in range -/
def T (a b : Int) : Int := (if b < 0 then -a else a).tdiv (Int.gcd a b)
def L (a b : Int) : Int := (b.natAbs : Int).tdiv (Int.gcd a b)
def rOk (a b : Int) : Bool := decide (-4000000000000000000 ≤ a ∧ a ≤ 4000000000000000000 ∧ -4000000000000000000 ≤ b ∧ b ≤ 4000000000000000000 ∧ b ≠ 0) && qv (T a b) (L a b)
def rT (a b : Int) : Int := if rOk a b then T a b else 0
def rL (a b : Int) : Int := if rOk a b then L a b else 0
theorem T_pos {a b : Int} (h : 0 < b) : T a b = a.tdiv (Int.gcd a b) := by
  unfold T; rw [if_neg (by omega)]
theorem L_pos {a b : Int} (h : 0 < b) : L a b = b / (Int.gcd a b) := by
  unfold L; rw [Int.tdiv_eq_ediv_of_nonneg (by omega)]
  have : (b.natAbs : Int) = b := by omega
  rw [this]
theorem rOk_in {a b : Int} (ha : -4000000000000000000 ≤ a) (ha' : a ≤ 4000000000000000000) (hb : -4000000000000000000 ≤ b) (hb' : b ≤ 4000000000000000000) (h : b ≠ 0) : rOk a b = qv (T a b) (L a b) := by
  unfold rOk; simp [*]
theorem rOk_out {a b : Int} (h : a < -4000000000000000000 ∨ 4000000000000000000 < a ∨ b < -4000000000000000000 ∨ 4000000000000000000 < b ∨ b = 0) : rOk a b = false := by
  unfold rOk; simp; omega
theorem rT_ok {a b : Int} (h : rOk a b = true) : rT a b = T a b := by unfold rT; simp [h]
theorem rL_ok {a b : Int} (h : rOk a b = true) : rL a b = L a b := by unfold rL; simp [h]
theorem rT_no {a b : Int} (h : rOk a b = false) : rT a b = 0 := by unfold rT; simp [h]
theorem rL_no {a b : Int} (h : rOk a b = false) : rL a b = 0 := by unfold rL; simp [h]
theorem T_neg {a b : Int} (h : b < 0) : T a b = -(a.tdiv (Int.gcd a b)) := by
  unfold T; rw [if_pos h, Int.neg_tdiv]
theorem L_neg {a b : Int} (h : b < 0) : L a b = -(b.tdiv (Int.gcd a b)) := by
  unfold L
  have : (b.natAbs : Int) = -b := by omega
  rw [this, Int.neg_tdiv]
theorem tdiv_lo (a : Int) (g : Int) : (a.tdiv g).natAbs ≤ a.natAbs := by
  rw [Int.natAbs_tdiv]; exact Nat.div_le_self _ _
theorem gcd_absneg (a b : Int) : Int.gcd ((-a).natAbs : Int) (-b) = Int.gcd a b := by simp [Int.gcd]
theorem mul_bd {a b : Int} (h1 : -1000000000 ≤ a) (h2 : a ≤ 1000000000) (h3 : -1000000000 ≤ b) (h4 : b ≤ 1000000000) : -1000000000000000000 ≤ a * b ∧ a * b ≤ 1000000000000000000 := by
  have h := Int.natAbs_mul a b
  have ha : a.natAbs ≤ 1000000000 := by omega
  have hb : b.natAbs ≤ 1000000000 := by omega
  have := Nat.mul_le_mul ha hb
  omega
/-- what a function of two quotients answers: nothing unless both are valid -/
def both (t l s m : Int) : Bool := qv t l && qv s m
def gT (c : Bool) (a b : Int) : Int := if c then rT a b else 0
def gL (c : Bool) (a b : Int) : Int := if c then rL a b else 0
def gOk (c : Bool) (a b : Int) : Bool := c && rOk a b
def sg (n : Int) : Int := if n < 0 then -1 else if 0 < n then 1 else 0
def gS (c : Bool) (n : Int) : Int := if c then sg n else 0
theorem qv_neg (s m : Int) (h1 : -9223372036854775808 ≤ s) (h2 : s ≤ 9223372036854775807) : qv (if s = -9223372036854775808 then s else -s) m = qv s m := by
  split
  · rename_i h; subst h; rfl
  · unfold qv
    rw [Int.neg_gcd]
    apply decide_eq_decide.mpr
    omega
end Quo
namespace Go.Proofs.Ytgncjpakclbegaa
open Go.RowKit


theorem common_any (a b : Int) (w : World) (ha : 0 ≤ a) (ha' : a ≤ 9223372036854775807) (hb : 0 ≤ b) (hb' : b ≤ 9223372036854775807) :
    Calls Try.prog 129 #[.int .i64 a, .int .i64 b] w fun e w' => e = .returned (.int .i64 (Int.gcd a b)) ∧ w = w' := by
  go_enter Try.func129, Try.ntmps129
  go_wp2
  go_loop [0, 1, 5] (fun x y _ => ∃ m n : Int, x = .int .i64 m ∧ y = .int .i64 n ∧ 0 ≤ m ∧ m ≤ 9223372036854775807 ∧ 0 ≤ n ∧ n ≤ 9223372036854775807 ∧ Hid (Int.gcd m n = Int.gcd a b)) (fun _ y _ => (intOf y).toNat)
  case atStart => exact ⟨a, b, rfl, rfl, ha, ha', hb, hb', Lib.hid rfl⟩
  case round =>
    obtain ⟨m, n, rfl, rfl, hm, hm', hn, hn', hg⟩ := hrel
    by_cases h0 : n = 0
    · subst h0
      go_wp2
      go_ret
      exact ⟨ret_int (by rw [← hg.out]; exact (Quo.gcd_zero m hm).symm), rfl⟩
    · have h1 : (n == 0) = false := by simpa using h0
      have ht := Int.emod_lt_of_pos m (show 0 < n by omega)
      have ht0 := Int.emod_nonneg m h0
      have hgs := Lib.hid (Quo.gcd_stepE m n)
      go_wp2
      go_round
      case rel => exact ⟨n, _, rfl, rfl, hn, hn', by omega, by omega, Lib.hid (by rw [hgs.out]; exact hg.out)⟩
      case measure => simp [intOf]; omega

theorem divisor_any (a b : Int) (w : World) (ha : -4000000000000000000 ≤ a) (ha' : a ≤ 4000000000000000000) (hb : -4000000000000000000 ≤ b) (hb' : b ≤ 4000000000000000000) :
    Calls Try.prog 130 #[.int .i64 a, .int .i64 b] w fun e w' => e = .returned (.int .i64 (Int.gcd a b)) ∧ ∃ k, w' = w.drewN k := by
  go_enter Try.func130, Try.ntmps130
  go_wp2
  go_loopw [0, 1] (fun x y wr => ∃ m n : Int, ∃ k, x = .int .i64 m ∧ y = .int .i64 n ∧ -4000000000000000000 ≤ m ∧ m ≤ 4000000000000000000 ∧ -4000000000000000000 ≤ n ∧ n ≤ 4000000000000000000 ∧ Hid (Int.gcd m n = Int.gcd a b) ∧ wr = w.drewN k) (fun _ y _ => (intOf y).natAbs)
  case atStart => exact ⟨a, b, 0, rfl, rfl, ha, ha', hb, hb', Lib.hid rfl, rfl⟩
  case round =>
    obtain ⟨m, n, k, rfl, rfl, hm, hm', hn, hn', hg, rfl⟩ := hrel
    by_cases h0 : n = 0
    · subst h0
      by_cases hs : m < 0
      · go_wp2
        go_ret
        exact ⟨ret_int (by rw [← hg.out]; exact (Quo.gcd_zero_neg m hs).symm), _, rfl⟩
      · go_wp2
        go_ret
        exact ⟨ret_int (by rw [← hg.out]; exact (Quo.gcd_zero m (by omega)).symm), _, rfl⟩
    · have h1 : (n == 0) = false := by simpa using h0
      have ht := Quo.tmod_lt m n h0
      have hgs := Lib.hid (Quo.gcd_step m n)
      go_wp2
      go_quiet (fail)
      go_roundw
      case rel => refine ⟨_, _, _, _, _, _, _, _, ⟨n, _, _, rfl, rfl, hn, hn', by omega, by omega, Lib.hid (by rw [hgs.out]; exact hg.out), World.drewN_drewN _ _ _⟩, rfl⟩
      case measure => exact ht

theorem within_yes (n m : Int) (w : World) (h1 : -m ≤ n) (h2 : n ≤ m) (hm : 0 ≤ m) (hm' : m ≤ 4000000000000000000) :
    Calls Try.prog 125 #[.int .i64 n, .int .i64 m] w fun e w' => e = .returned (.bool true) ∧ w = w' := by
  go_enter Try.func125, Try.ntmps125
  go_wp2
  go_ret
  exact ⟨ret_bool (by simp <;> omega), rfl⟩

theorem within_no (n m : Int) (w : World) (h : n < -m ∨ m < n) (hm : 0 ≤ m) (hm' : m ≤ 4000000000000000000) :
    Calls Try.prog 125 #[.int .i64 n, .int .i64 m] w fun e w' => e = .returned (.bool false) ∧ w = w' := by
  by_cases h1 : -m ≤ n
  · have h2 : ¬ n ≤ m := by omega
    clear h
    go_enter Try.func125, Try.ntmps125
    go_wp2
    go_ret
    exact ⟨ret_bool (by simp <;> omega), rfl⟩
  · clear h
    go_enter Try.func125, Try.ntmps125
    go_wp2
    go_ret
    exact ⟨ret_bool (by simp), rfl⟩

theorem in_yes (n l h : Int) (w : World) (h1 : l ≤ n) (h2 : n ≤ h) :
    Calls Try.prog 100 #[.int .i64 n, .int .i64 l, .int .i64 h] w fun e w' => e = .returned (.bool true) ∧ w = w' := by
  go_enter Try.func100, Try.ntmps100
  go_wp2
  go_ret
  exact ⟨ret_bool (by simp <;> omega), rfl⟩

theorem in_no (n l h : Int) (w : World) (h0 : n < l ∨ h < n) :
    Calls Try.prog 100 #[.int .i64 n, .int .i64 l, .int .i64 h] w fun e w' => e = .returned (.bool false) ∧ w = w' := by
  by_cases h1 : l ≤ n
  · have h2 : ¬ n ≤ h := by omega
    clear h0
    go_enter Try.func100, Try.ntmps100
    go_wp2
    go_ret
    exact ⟨ret_bool (by simp <;> omega), rfl⟩
  · clear h0
    go_enter Try.func100, Try.ntmps100
    go_wp2
    go_ret
    exact ⟨ret_bool (by simp), rfl⟩

theorem size_any (n : Int) (w : World) (h1 : -9223372036854775807 ≤ n) (h2 : n ≤ 9223372036854775807) :
    Calls Try.prog 71 #[.int .i64 n] w fun e w' => e = .returned (.int .i64 n.natAbs) ∧ w = w' := by
  by_cases h : 0 ≤ n
  all_goals
    go_enter Try.func71, Try.ntmps71
    go_wp2
    go_ret
    exact ⟨ret_int (by omega), rfl⟩
end Go.Proofs.Ytgncjpakclbegaa
namespace Go.Proofs.Ytgncjpakclbegaa
open Go.RowKit

end Go.Proofs.Ytgncjpakclbegaa
namespace Go.Proofs.Ytgncjpakclbegaa
open Go.RowKit

end Go.Proofs.Ytgncjpakclbegaa
namespace Go.Proofs.Ytgncjpakclbegaa
open Go.RowKit

end Go.Proofs.Ytgncjpakclbegaa
namespace Go.Proofs.Ytgncjpakclbegaa
open Go.RowKit

end Go.Proofs.Ytgncjpakclbegaa
namespace Go.Proofs.Ytgncjpakclbegaa
open Go.RowKit

end Go.Proofs.Ytgncjpakclbegaa
namespace Go.Proofs.Ytgncjpakclbegaa
open Go.RowKit

theorem sign_any (n : Int) (w : World) :
    Calls Try.prog 78 #[.int .i64 n] w fun e w' => e = .returned (.int .i64 (Quo.sg n)) ∧ w = w' := by
  unfold Quo.sg
  by_cases h1 : n < 0
  · rw [if_pos h1]
    go_enter Try.func78, Try.ntmps78
    go_wp2
    go_ret
    exact ⟨ret_int (by omega), rfl⟩
  · by_cases h2 : 0 < n
    · rw [if_neg h1, if_pos h2]
      go_enter Try.func78, Try.ntmps78
      go_wp2
      go_ret
      exact ⟨ret_int (by omega), rfl⟩
    · obtain rfl : n = 0 := by omega
      rw [if_neg h1, if_neg h2]
      go_enter Try.func78, Try.ntmps78
      go_wp2
      go_ret
      exact ⟨ret_int (by omega), rfl⟩

theorem compare_any (x y : Int) (w : World) :
    Calls Try.prog 143 #[.int .i64 x, .int .i64 y] w fun e w' => e = .returned (.int .i64 (Quo.sg (x - y))) ∧ w = w' := by
  unfold Quo.sg
  by_cases h1 : x < y
  · rw [if_pos (by omega)]
    go_enter Try.func143, Try.ntmps143
    go_wp2
    go_ret
    exact ⟨rfl, rfl⟩
  · by_cases h2 : y < x
    · rw [if_neg (by omega), if_pos (by omega)]
      go_enter Try.func143, Try.ntmps143
      go_wp2
      go_ret
      exact ⟨rfl, rfl⟩
    · rw [if_neg (by omega), if_neg (by omega)]
      go_enter Try.func143, Try.ntmps143
      go_wp2
      go_ret
      exact ⟨rfl, rfl⟩

end Go.Proofs.Ytgncjpakclbegaa
namespace Go.Proofs.Ytgncjpakclbegaa
open Go.RowKit

end Go.Proofs.Ytgncjpakclbegaa
