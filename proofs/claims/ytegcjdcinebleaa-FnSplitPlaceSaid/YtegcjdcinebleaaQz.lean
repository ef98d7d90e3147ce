/-
  Plain facts on greatest common divisors and quotients, with no Go in sight: what QuoValid and QuoOf answer as functions on integers, and that both programs' ways to them agree.
-/
import Derived.Test.YtegcjdcinebleaaZa
import Derived.Below
import Derived.Deep.RegionWith
import Derived.Deep.Draws
namespace Quo

def qv (t l : Int) : Bool := decide (1 ≤ l ∧ l ≤ 1000000000 ∧ -1000000000 ≤ t ∧ t ≤ 1000000000 ∧ Int.gcd t l = 1)

theorem qv_out {t l : Int} (h : l < 1 ∨ 1000000000 < l ∨ t < -1000000000 ∨ 1000000000 < t) : qv t l = false := by
  unfold qv; simp; omega
theorem qv_in {t l : Int} (h1 : 1 ≤ l) (h2 : l ≤ 1000000000) (h3 : -1000000000 ≤ t) (h4 : t ≤ 1000000000) : qv t l = decide ((Int.gcd t l : Int) = 1) := by
  unfold qv; simp [h1, h2, h3, h4]; omega
theorem qv_true {t l : Int} (h : qv t l = true) : 1 ≤ l ∧ l ≤ 1000000000 ∧ -1000000000 ≤ t ∧ t ≤ 1000000000 ∧ Int.gcd t l = 1 := by
  unfold qv at h; simpa using h

/-- one step of Euclid's way, on signed numbers -/
theorem gcd_step (a b : Int) : Int.gcd b (a.tmod b) = Int.gcd a b := by
  rw [Int.gcd_comm a b]
  have h := Int.tmod_add_mul_tdiv a b
  have : a = a.tmod b + b * a.tdiv b := by omega
  conv => rhs; rw [this]
  rw [Int.gcd_add_mul_left_right]
theorem gcd_zero (a : Int) (h : 0 ≤ a) : (Int.gcd a 0 : Int) = a := by simp; omega
theorem gcd_zero_neg (a : Int) (h : a < 0) : (Int.gcd a 0 : Int) = -a := by simp; omega
theorem tmod_lt (a b : Int) (hb : b ≠ 0) : (a.tmod b).natAbs < b.natAbs := by
  have := Int.natAbs_tmod a b
  rw [this]; exact Nat.mod_lt _ (by omega)
theorem gcd_stepE (a b : Int) : Int.gcd b (a % b) = Int.gcd a b := by
  rw [Int.gcd_comm a b]
  have h := Int.emod_add_mul_ediv a b
  have : a = a % b + b * (a / b) := by omega
  conv => rhs; rw [this]
  rw [Int.gcd_add_mul_left_right]
theorem gcd_abs (t l : Int) : Int.gcd (t.natAbs : Int) l = Int.gcd t l := by simp [Int.gcd]
theorem gcd_pos (a b : Int) (h : b ≠ 0) : 0 < (Int.gcd a b : Int) := by
  have := Int.gcd_pos_of_ne_zero_right a h
  omega
theorem gcd_le (a b : Int) (h : b ≠ 0) : (Int.gcd a b : Int) ≤ b.natAbs := by
  have := Nat.le_of_dvd (by omega) (Int.gcd_dvd_natAbs_right a b)
  omega

/-- the quotient of a by b in lowest terms: what is above, what is below, and whether there is one in range -/
def T (a b : Int) : Int := (if b < 0 then -a else a).tdiv (Int.gcd a b)
def L (a b : Int) : Int := (b.natAbs : Int).tdiv (Int.gcd a b)
def rOk (a b : Int) : Bool := decide (-4000000000000000000 ≤ a ∧ a ≤ 4000000000000000000 ∧ -4000000000000000000 ≤ b ∧ b ≤ 4000000000000000000 ∧ b ≠ 0) && qv (T a b) (L a b)
def rT (a b : Int) : Int := if rOk a b then T a b else 0
def rL (a b : Int) : Int := if rOk a b then L a b else 0
theorem T_pos {a b : Int} (h : 0 < b) : T a b = a.tdiv (Int.gcd a b) := by
  unfold T; rw [if_neg (by omega)]
theorem L_pos {a b : Int} (h : 0 < b) : L a b = b / (Int.gcd a b) := by
  unfold L; rw [Int.tdiv_eq_ediv_of_nonneg (by omega)]
  have : (b.natAbs : Int) = b := by omega
  rw [this]
theorem rOk_in {a b : Int} (ha : -4000000000000000000 ≤ a) (ha' : a ≤ 4000000000000000000) (hb : -4000000000000000000 ≤ b) (hb' : b ≤ 4000000000000000000) (h : b ≠ 0) : rOk a b = qv (T a b) (L a b) := by
  unfold rOk; simp [*]
theorem rOk_out {a b : Int} (h : a < -4000000000000000000 ∨ 4000000000000000000 < a ∨ b < -4000000000000000000 ∨ 4000000000000000000 < b ∨ b = 0) : rOk a b = false := by
  unfold rOk; simp; omega
theorem rT_ok {a b : Int} (h : rOk a b = true) : rT a b = T a b := by unfold rT; simp [h]
theorem rL_ok {a b : Int} (h : rOk a b = true) : rL a b = L a b := by unfold rL; simp [h]
theorem rT_no {a b : Int} (h : rOk a b = false) : rT a b = 0 := by unfold rT; simp [h]
theorem rL_no {a b : Int} (h : rOk a b = false) : rL a b = 0 := by unfold rL; simp [h]
theorem T_neg {a b : Int} (h : b < 0) : T a b = -(a.tdiv (Int.gcd a b)) := by
  unfold T; rw [if_pos h, Int.neg_tdiv]
theorem L_neg {a b : Int} (h : b < 0) : L a b = -(b.tdiv (Int.gcd a b)) := by
  unfold L
  have : (b.natAbs : Int) = -b := by omega
  rw [this, Int.neg_tdiv]
theorem tdiv_lo (a : Int) (g : Int) : (a.tdiv g).natAbs ≤ a.natAbs := by
  rw [Int.natAbs_tdiv]; exact Nat.div_le_self _ _
theorem gcd_absneg (a b : Int) : Int.gcd ((-a).natAbs : Int) (-b) = Int.gcd a b := by simp [Int.gcd]
theorem mul_bd {a b : Int} (h1 : -1000000000 ≤ a) (h2 : a ≤ 1000000000) (h3 : -1000000000 ≤ b) (h4 : b ≤ 1000000000) : -1000000000000000000 ≤ a * b ∧ a * b ≤ 1000000000000000000 := by
  have h := Int.natAbs_mul a b
  have ha : a.natAbs ≤ 1000000000 := by omega
  have hb : b.natAbs ≤ 1000000000 := by omega
  have := Nat.mul_le_mul ha hb
  omega
/-- what a function of two quotients answers: nothing unless both are valid -/
def both (t l s m : Int) : Bool := qv t l && qv s m
def gT (c : Bool) (a b : Int) : Int := if c then rT a b else 0
def gL (c : Bool) (a b : Int) : Int := if c then rL a b else 0
def gOk (c : Bool) (a b : Int) : Bool := c && rOk a b
def sg (n : Int) : Int := if n < 0 then -1 else if 0 < n then 1 else 0
def gS (c : Bool) (n : Int) : Int := if c then sg n else 0
theorem qv_neg (s m : Int) (h1 : -9223372036854775808 ≤ s) (h2 : s ≤ 9223372036854775807) : qv (if s = -9223372036854775808 then s else -s) m = qv s m := by
  split
  · rename_i h; subst h; rfl
  · unfold qv
    rw [Int.neg_gcd]
    apply decide_eq_decide.mpr
    omega
end Quo
namespace Go.Proofs.Ytegcjdcinebleaa
open Go.RowKit


theorem common_any (a b : Int) (w : World) (ha : 0 ≤ a) (ha' : a ≤ 9223372036854775807) (hb : 0 ≤ b) (hb' : b ≤ 9223372036854775807) :
    Calls Try.prog 115 #[.int .i64 a, .int .i64 b] w fun e w' => e = .returned (.int .i64 (Int.gcd a b)) ∧ w = w' := by
  go_enter Try.func115, Try.ntmps115
  go_wp2
  go_loop [0, 1, 5] (fun x y _ => ∃ m n : Int, x = .int .i64 m ∧ y = .int .i64 n ∧ 0 ≤ m ∧ m ≤ 9223372036854775807 ∧ 0 ≤ n ∧ n ≤ 9223372036854775807 ∧ Hid (Int.gcd m n = Int.gcd a b)) (fun _ y _ => (intOf y).toNat)
  case atStart => exact ⟨a, b, rfl, rfl, ha, ha', hb, hb', Lib.hid rfl⟩
  case round =>
    obtain ⟨m, n, rfl, rfl, hm, hm', hn, hn', hg⟩ := hrel
    by_cases h0 : n = 0
    · subst h0
      go_wp2
      go_ret
      exact ⟨ret_int (by rw [← hg.out]; exact (Quo.gcd_zero m hm).symm), rfl⟩
    · have h1 : (n == 0) = false := by simpa using h0
      have ht := Int.emod_lt_of_pos m (show 0 < n by omega)
      have ht0 := Int.emod_nonneg m h0
      have hgs := Lib.hid (Quo.gcd_stepE m n)
      go_wp2
      go_round
      case rel => exact ⟨n, _, rfl, rfl, hn, hn', by omega, by omega, Lib.hid (by rw [hgs.out]; exact hg.out)⟩
      case measure => simp [intOf]; omega

theorem divisor_any (a b : Int) (w : World) (ha : -4000000000000000000 ≤ a) (ha' : a ≤ 4000000000000000000) (hb : -4000000000000000000 ≤ b) (hb' : b ≤ 4000000000000000000) :
    Calls Try.prog 89 #[.int .i64 a, .int .i64 b] w fun e w' => e = .returned (.int .i64 (Int.gcd a b)) ∧ ∃ k, w' = w.drewN k := by
  go_enter Try.func89, Try.ntmps89
  go_wp2
  go_loopw [0, 1] (fun x y wr => ∃ m n : Int, ∃ k, x = .int .i64 m ∧ y = .int .i64 n ∧ -4000000000000000000 ≤ m ∧ m ≤ 4000000000000000000 ∧ -4000000000000000000 ≤ n ∧ n ≤ 4000000000000000000 ∧ Hid (Int.gcd m n = Int.gcd a b) ∧ wr = w.drewN k) (fun _ y _ => (intOf y).natAbs)
  case atStart => exact ⟨a, b, 0, rfl, rfl, ha, ha', hb, hb', Lib.hid rfl, rfl⟩
  case round =>
    obtain ⟨m, n, k, rfl, rfl, hm, hm', hn, hn', hg, rfl⟩ := hrel
    by_cases h0 : n = 0
    · subst h0
      by_cases hs : m < 0
      · go_wp2
        go_ret
        exact ⟨ret_int (by rw [← hg.out]; exact (Quo.gcd_zero_neg m hs).symm), _, rfl⟩
      · go_wp2
        go_ret
        exact ⟨ret_int (by rw [← hg.out]; exact (Quo.gcd_zero m (by omega)).symm), _, rfl⟩
    · have h1 : (n == 0) = false := by simpa using h0
      have ht := Quo.tmod_lt m n h0
      have hgs := Lib.hid (Quo.gcd_step m n)
      go_wp2
      go_quiet (fail)
      go_roundw
      case rel => refine ⟨_, _, _, _, _, _, _, _, ⟨n, _, _, rfl, rfl, hn, hn', by omega, by omega, Lib.hid (by rw [hgs.out]; exact hg.out), World.drewN_drewN _ _ _⟩, rfl⟩
      case measure => exact ht

theorem within_yes (n m : Int) (w : World) (h1 : -m ≤ n) (h2 : n ≤ m) (hm : 0 ≤ m) (hm' : m ≤ 4000000000000000000) :
    Calls Try.prog 111 #[.int .i64 n, .int .i64 m] w fun e w' => e = .returned (.bool true) ∧ w = w' := by
  go_enter Try.func111, Try.ntmps111
  go_wp2
  go_ret
  exact ⟨ret_bool (by simp <;> omega), rfl⟩

theorem within_no (n m : Int) (w : World) (h : n < -m ∨ m < n) (hm : 0 ≤ m) (hm' : m ≤ 4000000000000000000) :
    Calls Try.prog 111 #[.int .i64 n, .int .i64 m] w fun e w' => e = .returned (.bool false) ∧ w = w' := by
  by_cases h1 : -m ≤ n
  · have h2 : ¬ n ≤ m := by omega
    clear h
    go_enter Try.func111, Try.ntmps111
    go_wp2
    go_ret
    exact ⟨ret_bool (by simp <;> omega), rfl⟩
  · clear h
    go_enter Try.func111, Try.ntmps111
    go_wp2
    go_ret
    exact ⟨ret_bool (by simp), rfl⟩

theorem in_yes (n l h : Int) (w : World) (h1 : l ≤ n) (h2 : n ≤ h) :
    Calls Try.prog 86 #[.int .i64 n, .int .i64 l, .int .i64 h] w fun e w' => e = .returned (.bool true) ∧ w = w' := by
  go_enter Try.func86, Try.ntmps86
  go_wp2
  go_ret
  exact ⟨ret_bool (by simp <;> omega), rfl⟩

theorem in_no (n l h : Int) (w : World) (h0 : n < l ∨ h < n) :
    Calls Try.prog 86 #[.int .i64 n, .int .i64 l, .int .i64 h] w fun e w' => e = .returned (.bool false) ∧ w = w' := by
  by_cases h1 : l ≤ n
  · have h2 : ¬ n ≤ h := by omega
    clear h0
    go_enter Try.func86, Try.ntmps86
    go_wp2
    go_ret
    exact ⟨ret_bool (by simp <;> omega), rfl⟩
  · clear h0
    go_enter Try.func86, Try.ntmps86
    go_wp2
    go_ret
    exact ⟨ret_bool (by simp), rfl⟩

theorem size_any (n : Int) (w : World) (h1 : -9223372036854775807 ≤ n) (h2 : n ≤ 9223372036854775807) :
    Calls Try.prog 73 #[.int .i64 n] w fun e w' => e = .returned (.int .i64 n.natAbs) ∧ w = w' := by
  by_cases h : 0 ≤ n
  all_goals
    go_enter Try.func73, Try.ntmps73
    go_wp2
    go_ret
    exact ⟨ret_int (by omega), rfl⟩
end Go.Proofs.Ytegcjdcinebleaa
namespace Go.Proofs.Ytegcjdcinebleaa
open Go.RowKit

theorem ivalid_out (t l : Int) (w : World) (h : l < 1 ∨ 1000000000 < l ∨ t < -1000000000 ∨ 1000000000 < t) :
    Calls Try.prog 114 #[.agg #[.int .i64 t, .int .i64 l]] w fun e w' => e = .returned (.bool (Quo.qv t l)) ∧ Below w.heap.size w w' := by
  rw [Quo.qv_out h]
  by_cases h1 : l < 1
  · clear h
    go_enter Try.func114, Try.ntmps114
    go_wp2
    go_ret
    exact ⟨rfl, (Below.refl _ _).alloc (Nat.le_refl _) _⟩
  · by_cases h2 : 1000000000 < l
    · clear h
      go_enter Try.func114, Try.ntmps114
      go_wp2
      go_ret
      exact ⟨rfl, (Below.refl _ _).alloc (Nat.le_refl _) _⟩
    · have h3 : t < -1000000000 ∨ 1000000000 < t := by omega
      clear h
      go_enter Try.func114, Try.ntmps114
      go_wp2_with (go_at_call 111; (with_reducible refine (within_no _ _ _ h3 (by decide) (by decide)).mono ?_); rintro e w' ⟨rfl, rfl⟩)
      go_ret
      exact ⟨rfl, (Below.refl _ _).alloc (Nat.le_refl _) _⟩

theorem ivalid_in (t l : Int) (w : World) (h1 : 1 ≤ l) (h2 : l ≤ 1000000000) (h3 : -1000000000 ≤ t) (h4 : t ≤ 1000000000) :
    Calls Try.prog 114 #[.agg #[.int .i64 t, .int .i64 l]] w fun e w' => e = .returned (.bool (Quo.qv t l)) ∧ Below w.heap.size w w' := by
  rw [Quo.qv_in h1 h2 h3 h4]
  go_enter Try.func114, Try.ntmps114
  go_wp2_with (first | (go_at_call 111; (with_reducible refine (within_yes _ _ _ h3 h4 (by decide) (by decide)).mono ?_); rintro e w' ⟨rfl, rfl⟩) | (go_at_call 89; (with_reducible refine (divisor_any _ _ _ (by omega) (by omega) (by omega) (by omega)).mono ?_); rintro e w' ⟨rfl, k, rfl⟩))
  go_ret
  exact ⟨rfl, below_drewN ((Below.refl _ _).alloc (Nat.le_refl _) _) _⟩

theorem ivalid_any (t l : Int) (w : World) :
    Calls Try.prog 114 #[.agg #[.int .i64 t, .int .i64 l]] w fun e w' => e = .returned (.bool (Quo.qv t l)) ∧ Below w.heap.size w w' := by
  by_cases h : l < 1 ∨ 1000000000 < l ∨ t < -1000000000 ∨ 1000000000 < t
  · exact ivalid_out t l w h
  · exact ivalid_in t l w (by omega) (by omega) (by omega) (by omega)

theorem svalid_out (t l : Int) (w : World) (h : l < 1 ∨ 1000000000 < l ∨ t < -1000000000 ∨ 1000000000 < t) :
    Calls Try.prog 116 #[.agg #[.int .i64 t, .int .i64 l]] w fun e w' => e = .returned (.bool (Quo.qv t l)) ∧ Below w.heap.size w w' := by
  rw [Quo.qv_out h]
  by_cases h1 : l < 1 ∨ 1000000000 < l
  · clear h
    go_enter Try.func116, Try.ntmps116
    go_wp2_with (go_at_call 86; (with_reducible refine (in_no _ _ _ _ h1).mono ?_); rintro e w' ⟨rfl, rfl⟩)
    go_ret
    exact ⟨rfl, (Below.refl _ _).alloc (Nat.le_refl _) _⟩
  · have h2 : 1 ≤ l := by omega
    have h2' : l ≤ 1000000000 := by omega
    have h3 : t < -1000000000 ∨ 1000000000 < t := by omega
    clear h h1
    go_enter Try.func116, Try.ntmps116
    go_wp2_with (first | (go_at_call 86; (with_reducible refine (in_no t _ _ _ h3).mono ?_); rintro e w' ⟨rfl, rfl⟩) | (go_at_call 86; (with_reducible refine (in_yes l _ _ _ h2 h2').mono ?_); rintro e w' ⟨rfl, rfl⟩))
    go_ret
    exact ⟨rfl, (Below.refl _ _).alloc (Nat.le_refl _) _⟩

theorem svalid_in (t l : Int) (w : World) (h1 : 1 ≤ l) (h2 : l ≤ 1000000000) (h3 : -1000000000 ≤ t) (h4 : t ≤ 1000000000) :
    Calls Try.prog 116 #[.agg #[.int .i64 t, .int .i64 l]] w fun e w' => e = .returned (.bool (Quo.qv t l)) ∧ Below w.heap.size w w' := by
  rw [Quo.qv_in h1 h2 h3 h4, ← Quo.gcd_abs t l]
  go_enter Try.func116, Try.ntmps116
  go_wp2_with (first | (go_at_call 86; (with_reducible refine (in_yes t _ _ _ h3 h4).mono ?_); rintro e w' ⟨rfl, rfl⟩) | (go_at_call 86; (with_reducible refine (in_yes l _ _ _ h1 h2).mono ?_); rintro e w' ⟨rfl, rfl⟩))
  go_quiet (first | (go_at_call 73; exact Calls.quiet_of_same ((size_any _ _ (by omega) (by omega)).mono fun _ _ ⟨he, hw⟩ => ⟨he, hw.symm⟩)) | (go_at_call 115; exact Calls.quiet_of_same ((common_any _ _ _ (by omega) (by omega) (by omega) (by omega)).mono fun _ _ ⟨he, hw⟩ => ⟨he, hw.symm⟩)))
  go_wp2
  go_ret
  exact ⟨rfl, below_drewN ((Below.refl _ _).alloc (Nat.le_refl _) _) _⟩

theorem svalid_any (t l : Int) (w : World) :
    Calls Try.prog 116 #[.agg #[.int .i64 t, .int .i64 l]] w fun e w' => e = .returned (.bool (Quo.qv t l)) ∧ Below w.heap.size w w' := by
  by_cases h : l < 1 ∨ 1000000000 < l ∨ t < -1000000000 ∨ 1000000000 < t
  · exact svalid_out t l w h
  · exact svalid_in t l w (by omega) (by omega) (by omega) (by omega)
end Go.Proofs.Ytegcjdcinebleaa
namespace Go.Proofs.Ytegcjdcinebleaa
open Go.RowKit

theorem ivalid_is (t l : Int) (b : Bool) (w : World) (h : Quo.qv t l = b) :
    Calls Try.prog 114 #[.agg #[.int .i64 t, .int .i64 l]] w fun e w' => e = .returned (.bool b) ∧ Below w.heap.size w w' := by
  rw [← h]; exact ivalid_any t l w
theorem svalid_is (t l : Int) (b : Bool) (w : World) (h : Quo.qv t l = b) :
    Calls Try.prog 116 #[.agg #[.int .i64 t, .int .i64 l]] w fun e w' => e = .returned (.bool b) ∧ Below w.heap.size w w' := by
  rw [← h]; exact svalid_any t l w

theorem iof_pos (a b : Int) (w : World) (ha : -4000000000000000000 ≤ a) (ha' : a ≤ 4000000000000000000) (hb : 0 < b) (hb' : b ≤ 4000000000000000000) :
    Calls Try.prog 91 #[.int .i64 a, .int .i64 b] w fun e w' => e = .returned (.tuple #[.agg #[.int .i64 (Quo.rT a b), .int .i64 (Quo.rL a b)], .bool (Quo.rOk a b)]) ∧ Below w.heap.size w w' := by
  have h1 : -4000000000000000000 ≤ b := by omega
  have hg := Quo.gcd_pos a b (by omega)
  have hg' := Quo.gcd_le a b (by omega)
  have h2 : (b == 0) = false := by simp; omega
  have h3 : ¬ b < 0 := by omega
  have h4 : ((Int.gcd a b : Int) == 0) = false := by simp; omega
  have t1 := Quo.T_pos (a := a) hb
  have t2 := Quo.L_pos (a := a) hb
  have t3 := Quo.rOk_in ha ha' h1 hb' (by omega)
  by_cases hq : Quo.qv (a.tdiv (Int.gcd a b)) (b / Int.gcd a b) = true
  · have r0 : Quo.rOk a b = true := by rw [t3, t1, t2]; exact hq
    rw [r0, Quo.rT_ok r0, Quo.rL_ok r0, t1, t2]
    clear t1 t2 t3 r0
    go_enter Try.func91, Try.ntmps91
    go_wp2_with (first | (go_at_call 111; (with_reducible refine (within_yes a _ _ ha ha' (by decide) (by decide)).mono ?_); rintro e w' ⟨rfl, rfl⟩) | (go_at_call 111; (with_reducible refine (within_yes b _ _ h1 hb' (by decide) (by decide)).mono ?_); rintro e w' ⟨rfl, rfl⟩) | (go_at_call 89; (with_reducible refine (divisor_any _ _ _ ha ha' h1 hb').mono ?_); rintro e w' ⟨rfl, k, rfl⟩))
    go_region
    all_goals go_wp2_with (go_at_call 114; refine (ivalid_is _ _ true _ hq).mono ?_; rintro e w1 ⟨rfl, hb1⟩; obtain ⟨hc, hf⟩ := bcell hb1)
    all_goals
      have c0 : w1.cell? ⟨w.heap.size, 0, none⟩ = some (.int .i64 0) := by rw [hc _ _ (by simp; omega)]; simp [go_sem]
      have c1 : w1.cell? ⟨w.heap.size, 1, none⟩ = some (.int .i64 0) := by rw [hc _ _ (by simp; omega)]; simp [go_sem]
      exact bodyPost_ret (v := .tuple #[.agg #[.int .i64 (a.tdiv (Int.gcd a b)), .int .i64 (b / Int.gcd a b)], .bool true]) (by simp [results, Try.results91, go_sem, c0, c1]) rfl ⟨rfl, ((((below_drewN ((Below.refl _ _).alloc (Nat.le_refl _) _) _).alloc (by simp) _).trans (hb1.mono (by simp; omega))).setCell (by simp) _).setCell (by simp) _⟩
  · have hq' : Quo.qv (a.tdiv (Int.gcd a b)) (b / Int.gcd a b) = false := by simpa using hq
    have r0 : Quo.rOk a b = false := by rw [t3, t1, t2]; exact hq'
    rw [r0, Quo.rT_no r0, Quo.rL_no r0]
    clear t1 t2 t3 r0 hq
    go_enter Try.func91, Try.ntmps91
    go_wp2_with (first | (go_at_call 111; (with_reducible refine (within_yes a _ _ ha ha' (by decide) (by decide)).mono ?_); rintro e w' ⟨rfl, rfl⟩) | (go_at_call 111; (with_reducible refine (within_yes b _ _ h1 hb' (by decide) (by decide)).mono ?_); rintro e w' ⟨rfl, rfl⟩) | (go_at_call 89; (with_reducible refine (divisor_any _ _ _ ha ha' h1 hb').mono ?_); rintro e w' ⟨rfl, k, rfl⟩))
    go_region
    all_goals go_wp2_with (go_at_call 114; refine (ivalid_is _ _ false _ hq').mono ?_; rintro e w1 ⟨rfl, hb1⟩; obtain ⟨hc, hf⟩ := bcell hb1)
    all_goals
      have c0 : w1.cell? ⟨w.heap.size, 0, none⟩ = some (.int .i64 0) := by rw [hc _ _ (by simp; omega)]; simp [go_sem]
      have c1 : w1.cell? ⟨w.heap.size, 1, none⟩ = some (.int .i64 0) := by rw [hc _ _ (by simp; omega)]; simp [go_sem]
      exact bodyPost_ret (v := .tuple #[.agg #[.int .i64 0, .int .i64 0], .bool false]) (by simp [results, Try.results91, go_sem, c0, c1]) rfl ⟨rfl, ((((below_drewN ((Below.refl _ _).alloc (Nat.le_refl _) _) _).alloc (by simp) _).trans (hb1.mono (by simp; omega))).setCell (by simp) _).setCell (by simp) _⟩
end Go.Proofs.Ytegcjdcinebleaa
namespace Go.Proofs.Ytegcjdcinebleaa
open Go.RowKit

theorem iof_neg (a b : Int) (w : World) (ha : -4000000000000000000 ≤ a) (ha' : a ≤ 4000000000000000000) (hb : b < 0) (h1 : -4000000000000000000 ≤ b) :
    Calls Try.prog 91 #[.int .i64 a, .int .i64 b] w fun e w' => e = .returned (.tuple #[.agg #[.int .i64 (Quo.rT a b), .int .i64 (Quo.rL a b)], .bool (Quo.rOk a b)]) ∧ Below w.heap.size w w' := by
  have hb' : b ≤ 4000000000000000000 := by omega
  have hg := Quo.gcd_pos a b (by omega)
  have hg' := Quo.gcd_le a b (by omega)
  have h2 : (b == 0) = false := by simp; omega
  have h4 : (-(Int.gcd a b : Int) == 0) = false := by simp; omega
  have d1 := Quo.tdiv_lo a (Int.gcd a b)
  have d2 := Quo.tdiv_lo b (Int.gcd a b)
  have t1 : Quo.T a b = wrap64 (-(a.tdiv (Int.gcd a b))) := by rw [Quo.T_neg hb]; unfold wrap64; omega
  have t2 : Quo.L a b = wrap64 (-(b.tdiv (Int.gcd a b))) := by rw [Quo.L_neg hb]; unfold wrap64; omega
  have t3 := Quo.rOk_in ha ha' h1 hb' (by omega)
  clear d1 d2
  by_cases hq : Quo.qv (wrap64 (-(a.tdiv (Int.gcd a b)))) (wrap64 (-(b.tdiv (Int.gcd a b)))) = true
  · have r0 : Quo.rOk a b = true := by rw [t3, t1, t2]; exact hq
    rw [r0, Quo.rT_ok r0, Quo.rL_ok r0, t1, t2]
    clear t1 t2 t3 r0
    go_enter Try.func91, Try.ntmps91
    go_wp2_with (first | (go_at_call 111; (with_reducible refine (within_yes a _ _ ha ha' (by decide) (by decide)).mono ?_); rintro e w' ⟨rfl, rfl⟩) | (go_at_call 111; (with_reducible refine (within_yes b _ _ h1 hb' (by decide) (by decide)).mono ?_); rintro e w' ⟨rfl, rfl⟩) | (go_at_call 89; (with_reducible refine (divisor_any _ _ _ ha ha' h1 hb').mono ?_); rintro e w' ⟨rfl, k, rfl⟩))
    go_region
    all_goals go_wp2_with (go_at_call 114; refine (ivalid_is _ _ true _ hq).mono ?_; rintro e w1 ⟨rfl, hb1⟩; obtain ⟨hc, hf⟩ := bcell hb1)
    all_goals
      have c0 : w1.cell? ⟨w.heap.size, 0, none⟩ = some (.int .i64 0) := by rw [hc _ _ (by simp; omega)]; simp [go_sem]
      have c1 : w1.cell? ⟨w.heap.size, 1, none⟩ = some (.int .i64 0) := by rw [hc _ _ (by simp; omega)]; simp [go_sem]
      exact bodyPost_ret (v := .tuple #[.agg #[.int .i64 (wrap64 (-(a.tdiv (Int.gcd a b)))), .int .i64 (wrap64 (-(b.tdiv (Int.gcd a b))))], .bool true]) (by simp [results, Try.results91, go_sem, c0, c1]) rfl ⟨rfl, ((((below_drewN ((Below.refl _ _).alloc (Nat.le_refl _) _) _).alloc (by simp) _).trans (hb1.mono (by simp; omega))).setCell (by simp) _).setCell (by simp) _⟩
  · have hq' : Quo.qv (wrap64 (-(a.tdiv (Int.gcd a b)))) (wrap64 (-(b.tdiv (Int.gcd a b)))) = false := by simpa using hq
    have r0 : Quo.rOk a b = false := by rw [t3, t1, t2]; exact hq'
    rw [r0, Quo.rT_no r0, Quo.rL_no r0]
    clear t1 t2 t3 r0 hq
    go_enter Try.func91, Try.ntmps91
    go_wp2_with (first | (go_at_call 111; (with_reducible refine (within_yes a _ _ ha ha' (by decide) (by decide)).mono ?_); rintro e w' ⟨rfl, rfl⟩) | (go_at_call 111; (with_reducible refine (within_yes b _ _ h1 hb' (by decide) (by decide)).mono ?_); rintro e w' ⟨rfl, rfl⟩) | (go_at_call 89; (with_reducible refine (divisor_any _ _ _ ha ha' h1 hb').mono ?_); rintro e w' ⟨rfl, k, rfl⟩))
    go_region
    all_goals go_wp2_with (go_at_call 114; refine (ivalid_is _ _ false _ hq').mono ?_; rintro e w1 ⟨rfl, hb1⟩; obtain ⟨hc, hf⟩ := bcell hb1)
    all_goals
      have c0 : w1.cell? ⟨w.heap.size, 0, none⟩ = some (.int .i64 0) := by rw [hc _ _ (by simp; omega)]; simp [go_sem]
      have c1 : w1.cell? ⟨w.heap.size, 1, none⟩ = some (.int .i64 0) := by rw [hc _ _ (by simp; omega)]; simp [go_sem]
      exact bodyPost_ret (v := .tuple #[.agg #[.int .i64 (0), .int .i64 (0)], .bool false]) (by simp [results, Try.results91, go_sem, c0, c1]) rfl ⟨rfl, ((((below_drewN ((Below.refl _ _).alloc (Nat.le_refl _) _) _).alloc (by simp) _).trans (hb1.mono (by simp; omega))).setCell (by simp) _).setCell (by simp) _⟩

theorem iof_out (a b : Int) (w : World) (h : a < -4000000000000000000 ∨ 4000000000000000000 < a ∨ b < -4000000000000000000 ∨ 4000000000000000000 < b ∨ b = 0) :
    Calls Try.prog 91 #[.int .i64 a, .int .i64 b] w fun e w' => e = .returned (.tuple #[.agg #[.int .i64 (Quo.rT a b), .int .i64 (Quo.rL a b)], .bool (Quo.rOk a b)]) ∧ Below w.heap.size w w' := by
  have r0 := Quo.rOk_out h
  rw [r0, Quo.rT_no r0, Quo.rL_no r0]
  clear r0
  by_cases h0 : b = 0
  · subst h0
    clear h
    go_enter Try.func91, Try.ntmps91
    go_wp2
    exact bodyPost_ret (v := .tuple #[.agg #[.int .i64 0, .int .i64 0], .bool false]) (by simp [results, Try.results91, go_sem]) rfl ⟨rfl, (Below.refl _ _).alloc (Nat.le_refl _) _⟩
  · have h0' : (b == 0) = false := by simpa using h0
    by_cases h1 : a < -4000000000000000000 ∨ 4000000000000000000 < a
    · clear h
      go_enter Try.func91, Try.ntmps91
      go_wp2_with (go_at_call 111; (with_reducible refine (within_no a _ _ h1 (by decide) (by decide)).mono ?_); rintro e w' ⟨rfl, rfl⟩)
      exact bodyPost_ret (v := .tuple #[.agg #[.int .i64 0, .int .i64 0], .bool false]) (by simp [results, Try.results91, go_sem]) rfl ⟨rfl, (Below.refl _ _).alloc (Nat.le_refl _) _⟩
    · have h2 : -4000000000000000000 ≤ a := by omega
      have h2' : a ≤ 4000000000000000000 := by omega
      have h3 : b < -4000000000000000000 ∨ 4000000000000000000 < b := by omega
      clear h h1
      go_enter Try.func91, Try.ntmps91
      go_wp2_with (first | (go_at_call 111; (with_reducible refine (within_no b _ _ h3 (by decide) (by decide)).mono ?_); rintro e w' ⟨rfl, rfl⟩) | (go_at_call 111; (with_reducible refine (within_yes a _ _ h2 h2' (by decide) (by decide)).mono ?_); rintro e w' ⟨rfl, rfl⟩))
      exact bodyPost_ret (v := .tuple #[.agg #[.int .i64 0, .int .i64 0], .bool false]) (by simp [results, Try.results91, go_sem]) rfl ⟨rfl, (Below.refl _ _).alloc (Nat.le_refl _) _⟩

theorem sof_pos (a b : Int) (w : World) (ha : -4000000000000000000 ≤ a) (ha' : a ≤ 4000000000000000000) (hb : 0 < b) (hb' : b ≤ 4000000000000000000) :
    Calls Try.prog 92 #[.int .i64 a, .int .i64 b] w fun e w' => e = .returned (.tuple #[.agg #[.int .i64 (Quo.rT a b), .int .i64 (Quo.rL a b)], .bool (Quo.rOk a b)]) ∧ Below w.heap.size w w' := by
  have h1 : -4000000000000000000 ≤ b := by omega
  have hg := Quo.gcd_pos a b (by omega)
  have hg' := Quo.gcd_le a b (by omega)
  have h2 : (b == 0) = false := by simp; omega
  have h3 : ¬ b < 0 := by omega
  have h4 : ((Int.gcd a b : Int) == 0) = false := by simp; omega
  have hga := Quo.gcd_abs a b
  have t1 := Quo.T_pos (a := a) hb
  have t2 := Quo.L_pos (a := a) hb
  have t3 := Quo.rOk_in ha ha' h1 hb' (by omega)
  by_cases hq : Quo.qv (a.tdiv (Int.gcd a b)) (b / Int.gcd a b) = true
  · have r0 : Quo.rOk a b = true := by rw [t3, t1, t2]; exact hq
    rw [r0, Quo.rT_ok r0, Quo.rL_ok r0, t1, t2]
    clear t1 t2 t3 r0
    go_enter Try.func92, Try.ntmps92
    go_wp2_with (first | (go_at_call 86; (with_reducible refine (in_yes a _ _ _ ha ha').mono ?_); rintro e w' ⟨rfl, rfl⟩) | (go_at_call 86; (with_reducible refine (in_yes b _ _ _ h1 hb').mono ?_); rintro e w' ⟨rfl, rfl⟩) | (go_at_call 73; (with_reducible refine (size_any _ _ (by omega) (by omega)).mono ?_); rintro e w' ⟨rfl, rfl⟩) | (go_at_call 115; (with_reducible refine (common_any _ _ _ (by omega) (by omega) (by omega) (by omega)).mono ?_); rintro e w' ⟨rfl, rfl⟩))
    go_region
    all_goals go_wp2_with (go_at_call 116; refine (svalid_is _ _ true _ hq).mono ?_; rintro e w1 ⟨rfl, hb1⟩; obtain ⟨hc, hf⟩ := bcell hb1)
    all_goals
      have c0 : w1.cell? ⟨w.heap.size, 0, none⟩ = some (.int .i64 0) := by rw [hc _ _ (by simp; omega)]; simp [go_sem]
      have c1 : w1.cell? ⟨w.heap.size, 1, none⟩ = some (.int .i64 0) := by rw [hc _ _ (by simp; omega)]; simp [go_sem]
      exact bodyPost_ret (v := .tuple #[.agg #[.int .i64 (a.tdiv (Int.gcd a b)), .int .i64 (b / Int.gcd a b)], .bool true]) (by simp [results, Try.results92, go_sem, c0, c1]) rfl ⟨rfl, (((below_drew (((Below.refl _ _).alloc (Nat.le_refl _) _).alloc (by simp) _)).trans (hb1.mono (by simp; omega))).setCell (by simp) _).setCell (by simp) _⟩
  · have hq' : Quo.qv (a.tdiv (Int.gcd a b)) (b / Int.gcd a b) = false := by simpa using hq
    have r0 : Quo.rOk a b = false := by rw [t3, t1, t2]; exact hq'
    rw [r0, Quo.rT_no r0, Quo.rL_no r0]
    clear t1 t2 t3 r0 hq
    go_enter Try.func92, Try.ntmps92
    go_wp2_with (first | (go_at_call 86; (with_reducible refine (in_yes a _ _ _ ha ha').mono ?_); rintro e w' ⟨rfl, rfl⟩) | (go_at_call 86; (with_reducible refine (in_yes b _ _ _ h1 hb').mono ?_); rintro e w' ⟨rfl, rfl⟩) | (go_at_call 73; (with_reducible refine (size_any _ _ (by omega) (by omega)).mono ?_); rintro e w' ⟨rfl, rfl⟩) | (go_at_call 115; (with_reducible refine (common_any _ _ _ (by omega) (by omega) (by omega) (by omega)).mono ?_); rintro e w' ⟨rfl, rfl⟩))
    go_region
    all_goals go_wp2_with (go_at_call 116; refine (svalid_is _ _ false _ hq').mono ?_; rintro e w1 ⟨rfl, hb1⟩; obtain ⟨hc, hf⟩ := bcell hb1)
    all_goals
      have c0 : w1.cell? ⟨w.heap.size, 0, none⟩ = some (.int .i64 0) := by rw [hc _ _ (by simp; omega)]; simp [go_sem]
      have c1 : w1.cell? ⟨w.heap.size, 1, none⟩ = some (.int .i64 0) := by rw [hc _ _ (by simp; omega)]; simp [go_sem]
      exact bodyPost_ret (v := .tuple #[.agg #[.int .i64 (0), .int .i64 (0)], .bool false]) (by simp [results, Try.results92, go_sem, c0, c1]) rfl ⟨rfl, (((below_drew (((Below.refl _ _).alloc (Nat.le_refl _) _).alloc (by simp) _)).trans (hb1.mono (by simp; omega))).setCell (by simp) _).setCell (by simp) _⟩

theorem sof_out (a b : Int) (w : World) (h : a < -4000000000000000000 ∨ 4000000000000000000 < a ∨ b < -4000000000000000000 ∨ 4000000000000000000 < b ∨ b = 0) :
    Calls Try.prog 92 #[.int .i64 a, .int .i64 b] w fun e w' => e = .returned (.tuple #[.agg #[.int .i64 (Quo.rT a b), .int .i64 (Quo.rL a b)], .bool (Quo.rOk a b)]) ∧ Below w.heap.size w w' := by
  have r0 := Quo.rOk_out h
  rw [r0, Quo.rT_no r0, Quo.rL_no r0]
  clear r0
  by_cases h1 : a < -4000000000000000000 ∨ 4000000000000000000 < a
  · clear h
    go_enter Try.func92, Try.ntmps92
    go_wp2_with (go_at_call 86; (with_reducible refine (in_no a _ _ _ h1).mono ?_); rintro e w' ⟨rfl, rfl⟩)
    exact bodyPost_ret (v := .tuple #[.agg #[.int .i64 0, .int .i64 0], .bool false]) (by simp [results, Try.results92, go_sem]) rfl ⟨rfl, (Below.refl _ _).alloc (Nat.le_refl _) _⟩
  · have h2 : -4000000000000000000 ≤ a := by omega
    have h2' : a ≤ 4000000000000000000 := by omega
    by_cases h3 : b < -4000000000000000000 ∨ 4000000000000000000 < b
    · clear h h1
      go_enter Try.func92, Try.ntmps92
      go_wp2_with (first | (go_at_call 86; (with_reducible refine (in_no b _ _ _ h3).mono ?_); rintro e w' ⟨rfl, rfl⟩) | (go_at_call 86; (with_reducible refine (in_yes a _ _ _ h2 h2').mono ?_); rintro e w' ⟨rfl, rfl⟩))
      exact bodyPost_ret (v := .tuple #[.agg #[.int .i64 0, .int .i64 0], .bool false]) (by simp [results, Try.results92, go_sem]) rfl ⟨rfl, (Below.refl _ _).alloc (Nat.le_refl _) _⟩
    · obtain rfl : b = 0 := by omega
      clear h h1 h3
      go_enter Try.func92, Try.ntmps92
      go_wp2_with (first | (go_at_call 86; (with_reducible refine (in_yes 0 _ _ _ (by decide) (by decide)).mono ?_); rintro e w' ⟨rfl, rfl⟩) | (go_at_call 86; (with_reducible refine (in_yes a _ _ _ h2 h2').mono ?_); rintro e w' ⟨rfl, rfl⟩))
      exact bodyPost_ret (v := .tuple #[.agg #[.int .i64 0, .int .i64 0], .bool false]) (by simp [results, Try.results92, go_sem]) rfl ⟨rfl, (Below.refl _ _).alloc (Nat.le_refl _) _⟩

theorem sof_neg (a b : Int) (w : World) (ha : -4000000000000000000 ≤ a) (ha' : a ≤ 4000000000000000000) (hb : b < 0) (h1 : -4000000000000000000 ≤ b) :
    Calls Try.prog 92 #[.int .i64 a, .int .i64 b] w fun e w' => e = .returned (.tuple #[.agg #[.int .i64 (Quo.rT a b), .int .i64 (Quo.rL a b)], .bool (Quo.rOk a b)]) ∧ Below w.heap.size w w' := by
  have hb' : b ≤ 4000000000000000000 := by omega
  have hg := Quo.gcd_pos a b (by omega)
  have hg' := Quo.gcd_le a b (by omega)
  have h2 : (b == 0) = false := by simp; omega
  have h4 : ((Int.gcd a b : Int) == 0) = false := by simp; omega
  have hga := Quo.gcd_abs a b
  have hgn := Quo.gcd_absneg a b
  have d1 := Quo.tdiv_lo a (Int.gcd a b)
  have d2 := Quo.tdiv_lo b (Int.gcd a b)
  have t1 : Quo.T a b = wrap64 (-(a.tdiv (Int.gcd a b))) := by rw [Quo.T_neg hb]; unfold wrap64; omega
  have t2 : Quo.L a b = wrap64 (-(b.tdiv (Int.gcd a b))) := by rw [Quo.L_neg hb]; unfold wrap64; omega
  have t3 := Quo.rOk_in ha ha' h1 hb' (by omega)
  clear d1 d2
  by_cases hq : Quo.qv (wrap64 (-(a.tdiv (Int.gcd a b)))) (wrap64 (-(b.tdiv (Int.gcd a b)))) = true
  · have r0 : Quo.rOk a b = true := by rw [t3, t1, t2]; exact hq
    rw [r0, Quo.rT_ok r0, Quo.rL_ok r0, t1, t2]
    clear t1 t2 t3 r0
    go_enter Try.func92, Try.ntmps92
    go_wp2_with (first | (go_at_call 86; (with_reducible refine (in_yes a _ _ _ ha ha').mono ?_); rintro e w' ⟨rfl, rfl⟩) | (go_at_call 86; (with_reducible refine (in_yes b _ _ _ h1 hb').mono ?_); rintro e w' ⟨rfl, rfl⟩) | (go_at_call 73; (with_reducible refine (size_any _ _ (by omega) (by omega)).mono ?_); rintro e w' ⟨rfl, rfl⟩) | (go_at_call 115; (with_reducible refine (common_any _ _ _ (by omega) (by omega) (by omega) (by omega)).mono ?_); rintro e w' ⟨rfl, rfl⟩))
    go_region
    all_goals go_wp2_with (go_at_call 116; refine (svalid_is _ _ true _ hq).mono ?_; rintro e w1 ⟨rfl, hb1⟩; obtain ⟨hc, hf⟩ := bcell hb1)
    all_goals
      have c0 : w1.cell? ⟨w.heap.size, 0, none⟩ = some (.int .i64 0) := by rw [hc _ _ (by simp; omega)]; simp [go_sem]
      have c1 : w1.cell? ⟨w.heap.size, 1, none⟩ = some (.int .i64 0) := by rw [hc _ _ (by simp; omega)]; simp [go_sem]
      exact bodyPost_ret (v := .tuple #[.agg #[.int .i64 (wrap64 (-(a.tdiv (Int.gcd a b)))), .int .i64 (wrap64 (-(b.tdiv (Int.gcd a b))))], .bool true]) (by simp [results, Try.results92, go_sem, c0, c1]) rfl ⟨rfl, (((below_drew (((Below.refl _ _).alloc (Nat.le_refl _) _).alloc (by simp) _)).trans (hb1.mono (by simp; omega))).setCell (by simp) _).setCell (by simp) _⟩
  · have hq' : Quo.qv (wrap64 (-(a.tdiv (Int.gcd a b)))) (wrap64 (-(b.tdiv (Int.gcd a b)))) = false := by simpa using hq
    have r0 : Quo.rOk a b = false := by rw [t3, t1, t2]; exact hq'
    rw [r0, Quo.rT_no r0, Quo.rL_no r0]
    clear t1 t2 t3 r0 hq
    go_enter Try.func92, Try.ntmps92
    go_wp2_with (first | (go_at_call 86; (with_reducible refine (in_yes a _ _ _ ha ha').mono ?_); rintro e w' ⟨rfl, rfl⟩) | (go_at_call 86; (with_reducible refine (in_yes b _ _ _ h1 hb').mono ?_); rintro e w' ⟨rfl, rfl⟩) | (go_at_call 73; (with_reducible refine (size_any _ _ (by omega) (by omega)).mono ?_); rintro e w' ⟨rfl, rfl⟩) | (go_at_call 115; (with_reducible refine (common_any _ _ _ (by omega) (by omega) (by omega) (by omega)).mono ?_); rintro e w' ⟨rfl, rfl⟩))
    go_region
    all_goals go_wp2_with (go_at_call 116; refine (svalid_is _ _ false _ hq').mono ?_; rintro e w1 ⟨rfl, hb1⟩; obtain ⟨hc, hf⟩ := bcell hb1)
    all_goals
      have c0 : w1.cell? ⟨w.heap.size, 0, none⟩ = some (.int .i64 0) := by rw [hc _ _ (by simp; omega)]; simp [go_sem]
      have c1 : w1.cell? ⟨w.heap.size, 1, none⟩ = some (.int .i64 0) := by rw [hc _ _ (by simp; omega)]; simp [go_sem]
      exact bodyPost_ret (v := .tuple #[.agg #[.int .i64 (0), .int .i64 (0)], .bool false]) (by simp [results, Try.results92, go_sem, c0, c1]) rfl ⟨rfl, (((below_drew (((Below.refl _ _).alloc (Nat.le_refl _) _).alloc (by simp) _)).trans (hb1.mono (by simp; omega))).setCell (by simp) _).setCell (by simp) _⟩

theorem iof_any (a b : Int) (w : World) :
    Calls Try.prog 91 #[.int .i64 a, .int .i64 b] w fun e w' => e = .returned (.tuple #[.agg #[.int .i64 (Quo.rT a b), .int .i64 (Quo.rL a b)], .bool (Quo.rOk a b)]) ∧ Below w.heap.size w w' := by
  by_cases h : a < -4000000000000000000 ∨ 4000000000000000000 < a ∨ b < -4000000000000000000 ∨ 4000000000000000000 < b ∨ b = 0
  · exact iof_out a b w h
  · by_cases hb : b < 0
    · exact iof_neg a b w (by omega) (by omega) hb (by omega)
    · exact iof_pos a b w (by omega) (by omega) (by omega) (by omega)

theorem sof_any (a b : Int) (w : World) :
    Calls Try.prog 92 #[.int .i64 a, .int .i64 b] w fun e w' => e = .returned (.tuple #[.agg #[.int .i64 (Quo.rT a b), .int .i64 (Quo.rL a b)], .bool (Quo.rOk a b)]) ∧ Below w.heap.size w w' := by
  by_cases h : a < -4000000000000000000 ∨ 4000000000000000000 < a ∨ b < -4000000000000000000 ∨ 4000000000000000000 < b ∨ b = 0
  · exact sof_out a b w h
  · by_cases hb : b < 0
    · exact sof_neg a b w (by omega) (by omega) hb (by omega)
    · exact sof_pos a b w (by omega) (by omega) (by omega) (by omega)

theorem eq_any (a b : Int) (w : World) :
    Calls Try.prog 59 #[.agg #[.int .i64 a, .int .i64 b], .agg #[.int .i64 a, .int .i64 b]] w fun e w' => e = .returned (.bool true) ∧ Below w.heap.size w w' := by
  go_enter Try.func59, Try.ntmps59
  go_wp2
  go_ret
  exact ⟨rfl, ((Below.refl _ _).alloc (Nat.le_refl _) _).alloc (by simp) _⟩
end Go.Proofs.Ytegcjdcinebleaa
namespace Go.Proofs.Ytegcjdcinebleaa
open Go.RowKit

end Go.Proofs.Ytegcjdcinebleaa
namespace Go.Proofs.Ytegcjdcinebleaa
open Go.RowKit

/-- the interface value that the program makes of a quotient -/
def numB (t l : Int) : Value := if Quo.qv t l then (if l = 1 then .iface 126 (.int .i64 t) else .iface 128 (.agg #[.int .i64 t, .int .i64 l])) else .nilIface
theorem numB_no {t l : Int} (h : Quo.qv t l = false) : numB t l = .nilIface := by unfold numB; simp [h]
theorem numB_one {t : Int} (h : Quo.qv t 1 = true) : numB t 1 = .iface 126 (.int .i64 t) := by unfold numB; simp [h]
theorem numB_more {t l : Int} (h : Quo.qv t l = true) (h1 : l ≠ 1) : numB t l = .iface 128 (.agg #[.int .i64 t, .int .i64 l]) := by unfold numB; simp [h, h1]

theorem numberOf_any (t l : Int) (w : World) :
    Calls Try.prog 117 #[.agg #[.int .i64 t, .int .i64 l]] w fun e w' => e = .returned (.tuple #[numB t l, .bool (Quo.qv t l)]) ∧ Below w.heap.size w w' := by
  by_cases h : Quo.qv t l = true
  · rw [h]
    by_cases h1 : l = 1
    · subst h1
      rw [numB_one h]
      go_enter Try.func117, Try.ntmps117
      go_wp2_with ((go_at_call 114; (with_reducible refine (ivalid_is _ _ true _ h).mono ?_); rintro e wn ⟨rfl, hbn⟩; obtain ⟨hcn, hfn⟩ := bcell hbn; have hzn : w.heap.size < wn.heap.size := (by have := hbn.size; (try simp at this); omega)))
      go_ret2
      exact ⟨rfl, (by repeat (first | assumption | exact Below.refl _ _ | (refine below_chain ?_ (by assumption) (by first | omega | (simp <;> omega) | simp)) | (refine Below.alloc ?_ (by first | omega | (simp <;> omega) | simp) _) | (apply below_drewN) | (apply below_drew) | (refine Below.setCell ?_ (by first | omega | (simp <;> omega) | simp) _)))⟩
    · rw [numB_more h h1]
      have h1' : (l == 1) = false := by simpa using h1
      go_enter Try.func117, Try.ntmps117
      go_wp2_with ((go_at_call 114; (with_reducible refine (ivalid_is _ _ true _ h).mono ?_); rintro e wn ⟨rfl, hbn⟩; obtain ⟨hcn, hfn⟩ := bcell hbn; have hzn : w.heap.size < wn.heap.size := (by have := hbn.size; (try simp at this); omega)))
      go_ret2
      exact ⟨rfl, (by repeat (first | assumption | exact Below.refl _ _ | (refine below_chain ?_ (by assumption) (by first | omega | (simp <;> omega) | simp)) | (refine Below.alloc ?_ (by first | omega | (simp <;> omega) | simp) _) | (apply below_drewN) | (apply below_drew) | (refine Below.setCell ?_ (by first | omega | (simp <;> omega) | simp) _)))⟩
  · have h' : Quo.qv t l = false := by simpa using h
    rw [h', numB_no h']
    clear h
    go_enter Try.func117, Try.ntmps117
    go_wp2_with ((go_at_call 114; (with_reducible refine (ivalid_is _ _ false _ h').mono ?_); rintro e wn ⟨rfl, hbn⟩; obtain ⟨hcn, hfn⟩ := bcell hbn; have hzn : w.heap.size < wn.heap.size := (by have := hbn.size; (try simp at this); omega)))
    go_ret2
    exact ⟨rfl, (by repeat (first | assumption | exact Below.refl _ _ | (refine below_chain ?_ (by assumption) (by first | omega | (simp <;> omega) | simp)) | (refine Below.alloc ?_ (by first | omega | (simp <;> omega) | simp) _) | (apply below_drewN) | (apply below_drew) | (refine Below.setCell ?_ (by first | omega | (simp <;> omega) | simp) _)))⟩

theorem numberOf_is (t l : Int) (x : Value) (b : Bool) (w : World) (hx : numB t l = x) (hb : Quo.qv t l = b) :
    Calls Try.prog 117 #[.agg #[.int .i64 t, .int .i64 l]] w fun e w' => e = .returned (.tuple #[x, .bool b]) ∧ Below w.heap.size w w' := by
  rw [← hx, ← hb]; exact numberOf_any t l w

theorem numbersOf_is (t l s m : Int) (x y : Value) (a b : Bool) (w : World) (hx : numB t l = x) (ha : Quo.qv t l = a) (hy : numB s m = y) (hb : Quo.qv s m = b) :
    Calls Try.prog 93 #[.agg #[.int .i64 t, .int .i64 l], .agg #[.int .i64 s, .int .i64 m]] w fun e w' => e = .returned (.tuple #[x, y, .bool (a && b)]) ∧ Below w.heap.size w w' := by
  have c1 := fun w => Lib.hid (numberOf_is t l x a w hx ha)
  have c2 := fun w => Lib.hid (numberOf_is s m y b w hy hb)
  clear hx hy ha hb
  cases a <;> cases b
  all_goals
    go_enter Try.func93, Try.ntmps93
    go_wp2_with (first | (go_at_call 117; (with_reducible refine ((c1 _).out).mono ?_); rintro e wn ⟨rfl, hbn⟩; obtain ⟨hcn, hfn⟩ := bcell hbn; have hzn : w.heap.size < wn.heap.size := (by have := hbn.size; (try simp at this); omega)) | (go_at_call 117; (with_reducible refine ((c2 _).out).mono ?_); rintro e wn ⟨rfl, hbn⟩; obtain ⟨hcn, hfn⟩ := bcell hbn; have hzn : w.heap.size < wn.heap.size := (by have := hbn.size; (try simp at this); omega)))
    try go_quiet (fail)
    try go_wp2
    go_ret3
    exact ⟨rfl, (by repeat (first | assumption | exact Below.refl _ _ | (refine below_chain ?_ (by assumption) (by first | omega | (simp <;> omega) | simp)) | (refine Below.alloc ?_ (by first | omega | (simp <;> omega) | simp) _) | (apply below_drewN) | (apply below_drew) | (refine Below.setCell ?_ (by first | omega | (simp <;> omega) | simp) _)))⟩

theorem parts_whole (t : Int) (w : World) :
    Calls Try.prog 144 #[.int .i64 t] w fun e w' => e = .returned (.tuple #[.int .i64 t, .int .i64 1]) ∧ w = w' := by
  go_enter Try.func144, Try.ntmps144
  go_wp2
  go_ret2
  exact ⟨rfl, rfl⟩
theorem parts_broken (t l : Int) (w : World) :
    Calls Try.prog 145 #[.agg #[.int .i64 t, .int .i64 l]] w fun e w' => e = .returned (.tuple #[.int .i64 t, .int .i64 l]) ∧ Below w.heap.size w w' := by
  go_enter Try.func145, Try.ntmps145
  go_wp2
  go_quiet (fail)
  go_wp2
  go_ret2
  exact ⟨rfl, (by repeat (first | assumption | exact Below.refl _ _ | (refine below_chain ?_ (by assumption) (by first | omega | (simp <;> omega) | simp)) | (refine Below.alloc ?_ (by first | omega | (simp <;> omega) | simp) _) | (apply below_drewN) | (apply below_drew) | (refine Below.setCell ?_ (by first | omega | (simp <;> omega) | simp) _)))⟩


theorem meth_whole (x : Int) (w : World) : (method 245 126 (.int .i64 x) "loop.example/levellingnet/impl.parts").run Try.prog w = .ok (144, .int .i64 x) w := by kernel_rfl
theorem meth_broken (x y : Int) (w : World) : (method 245 128 (.agg #[.int .i64 x, .int .i64 y]) "loop.example/levellingnet/impl.parts").run Try.prog w = .ok (145, .agg #[.int .i64 x, .int .i64 y]) w := by kernel_rfl

theorem iAdd_no (t l s m : Int) (w : World) (h : (Quo.qv t l && Quo.qv s m) = false) :
    Calls Try.prog 46 #[.agg #[.int .i64 t, .int .i64 l], .agg #[.int .i64 s, .int .i64 m]] w fun e w' => e = .returned (.tuple #[.agg #[.int .i64 0, .int .i64 0], .bool false]) ∧ Below w.heap.size w w' := by
  go_enter Try.func46, Try.ntmps46
  go_wp2_with ((go_at_call 93; (with_reducible refine (numbersOf_is _ _ _ _ _ _ _ _ _ rfl rfl rfl rfl).mono ?_); rintro e wn ⟨rfl, hbn⟩; obtain ⟨hcn, hfn⟩ := bcell hbn; have hzn : w.heap.size < wn.heap.size := (by have := hbn.size; (try simp at this); omega)))
  have c0 : wn.cell? ⟨w.heap.size + 1 + 1, 0, none⟩ = some (.int .i64 0) := by rw [hcn _ _ (by simp)]; simp [go_sem]
  have c1 : wn.cell? ⟨w.heap.size + 1 + 1, 1, none⟩ = some (.int .i64 0) := by rw [hcn _ _ (by simp)]; simp [go_sem]
  exact bodyPost_ret (v := .tuple #[.agg #[.int .i64 0, .int .i64 0], .bool false]) (by simp [results, Try.results46, go_sem, c0, c1]) rfl ⟨rfl, (by repeat (first | assumption | exact Below.refl _ _ | (refine below_chain ?_ (by assumption) (by first | omega | (simp <;> omega) | simp)) | (refine Below.alloc ?_ (by first | omega | (simp <;> omega) | simp) _) | (apply below_drewN) | (apply below_drew) | (refine Below.setCell ?_ (by first | omega | (simp <;> omega) | simp) _)))⟩

theorem iAdd_11 (t s : Int) (w : World) (h1 : Quo.qv t 1 = true) (h2 : Quo.qv s 1 = true) :
    Calls Try.prog 46 #[.agg #[.int .i64 t, .int .i64 1], .agg #[.int .i64 s, .int .i64 1]] w fun e w' => e = .returned (.tuple #[.agg #[.int .i64 (Quo.rT (t * 1 + s * 1) (1 * 1)), .int .i64 (Quo.rL (t * 1 + s * 1) (1 * 1))], .bool (Quo.rOk (t * 1 + s * 1) (1 * 1))]) ∧ Below w.heap.size w w' := by
  obtain ⟨b1, b2, b3, b4, -⟩ := Quo.qv_true h1
  obtain ⟨b5, b6, b7, b8, -⟩ := Quo.qv_true h2
  have mw := meth_whole
  have mb := meth_broken
  have cn := fun w => Lib.hid (numbersOf_is _ _ _ _ _ _ true true w (numB_one h1) h1 (numB_one h2) h2)
  clear h1 h2
  go_enter Try.func46, Try.ntmps46
  go_wp2_with (first | (go_at_call 93; (with_reducible refine ((cn _).out).mono ?_); rintro e wn ⟨rfl, hbn⟩; obtain ⟨hcn, hfn⟩ := bcell hbn; have hzn : w.heap.size < wn.heap.size := (by have := hbn.size; (try simp at this); omega); have hzn1 : w.heap.size + 1 < wn.heap.size := (by have := hbn.size; (try simp at this); omega); have hzn2 : w.heap.size + 1 + 1 < wn.heap.size := (by have := hbn.size; (try simp at this); omega)) | (go_at_call 144; (with_reducible refine (parts_whole _ _).mono ?_); rintro e w' ⟨rfl, rfl⟩) | (go_at_call 145; (with_reducible refine (parts_broken _ _ _).mono ?_); rintro e wn ⟨rfl, hbn⟩; obtain ⟨hcn, hfn⟩ := bcell hbn; have hzn : w.heap.size < wn.heap.size := (by have := hbn.size; (try simp at this); omega); have hzn1 : w.heap.size + 1 < wn.heap.size := (by have := hbn.size; (try simp at this); omega); have hzn2 : w.heap.size + 1 + 1 < wn.heap.size := (by have := hbn.size; (try simp at this); omega)) | (go_at_call 91; (with_reducible refine (iof_any _ _ _).mono ?_); rintro e wn ⟨rfl, hbn⟩; obtain ⟨hcn, hfn⟩ := bcell hbn; have hzn : w.heap.size < wn.heap.size := (by have := hbn.size; (try simp at this); omega); have hzn1 : w.heap.size + 1 < wn.heap.size := (by have := hbn.size; (try simp at this); omega); have hzn2 : w.heap.size + 1 + 1 < wn.heap.size := (by have := hbn.size; (try simp at this); omega)))
  have c0 : wn.cell? ⟨w.heap.size + 1 + 1, 0, none⟩ = some (.int .i64 0) := by simp [*, go_sem]
  have c1 : wn.cell? ⟨w.heap.size + 1 + 1, 1, none⟩ = some (.int .i64 0) := by simp [*, go_sem]
  exact bodyPost_ret (v := .tuple #[.agg #[.int .i64 (Quo.rT (t * 1 + s * 1) (1 * 1)), .int .i64 (Quo.rL (t * 1 + s * 1) (1 * 1))], .bool (Quo.rOk (t * 1 + s * 1) (1 * 1))]) (by simp [results, Try.results46, go_sem, c0, c1]) rfl ⟨rfl, (by repeat (first | assumption | exact Below.refl _ _ | (refine below_chain ?_ (by assumption) (by first | omega | (simp <;> omega) | simp)) | (refine Below.alloc ?_ (by first | omega | (simp <;> omega) | simp) _) | (apply below_drewN) | (apply below_drew) | (refine Below.setCell ?_ (by first | omega | (simp <;> omega) | simp) _)))⟩

theorem iAdd_1m (t s m : Int) (w : World) (h1 : Quo.qv t 1 = true) (h2 : Quo.qv s m = true) (k2 : m ≠ 1) :
    Calls Try.prog 46 #[.agg #[.int .i64 t, .int .i64 1], .agg #[.int .i64 s, .int .i64 m]] w fun e w' => e = .returned (.tuple #[.agg #[.int .i64 (Quo.rT (t * m + s * 1) (1 * m)), .int .i64 (Quo.rL (t * m + s * 1) (1 * m))], .bool (Quo.rOk (t * m + s * 1) (1 * m))]) ∧ Below w.heap.size w w' := by
  obtain ⟨b1, b2, b3, b4, -⟩ := Quo.qv_true h1
  obtain ⟨b5, b6, b7, b8, -⟩ := Quo.qv_true h2
  have mw := meth_whole
  have mb := meth_broken
  have cn := fun w => Lib.hid (numbersOf_is _ _ _ _ _ _ true true w (numB_one h1) h1 (numB_more h2 k2) h2)
  obtain ⟨p1, p2⟩ := Quo.mul_bd b3 b4 (show -1000000000 ≤ m by omega) b6
  clear h1 h2
  go_enter Try.func46, Try.ntmps46
  go_wp2_with (first | (go_at_call 93; (with_reducible refine ((cn _).out).mono ?_); rintro e wn ⟨rfl, hbn⟩; obtain ⟨hcn, hfn⟩ := bcell hbn; have hzn : w.heap.size < wn.heap.size := (by have := hbn.size; (try simp at this); omega); have hzn1 : w.heap.size + 1 < wn.heap.size := (by have := hbn.size; (try simp at this); omega); have hzn2 : w.heap.size + 1 + 1 < wn.heap.size := (by have := hbn.size; (try simp at this); omega)) | (go_at_call 144; (with_reducible refine (parts_whole _ _).mono ?_); rintro e w' ⟨rfl, rfl⟩) | (go_at_call 145; (with_reducible refine (parts_broken _ _ _).mono ?_); rintro e wn ⟨rfl, hbn⟩; obtain ⟨hcn, hfn⟩ := bcell hbn; have hzn : w.heap.size < wn.heap.size := (by have := hbn.size; (try simp at this); omega); have hzn1 : w.heap.size + 1 < wn.heap.size := (by have := hbn.size; (try simp at this); omega); have hzn2 : w.heap.size + 1 + 1 < wn.heap.size := (by have := hbn.size; (try simp at this); omega)) | (go_at_call 91; (with_reducible refine (iof_any _ _ _).mono ?_); rintro e wn ⟨rfl, hbn⟩; obtain ⟨hcn, hfn⟩ := bcell hbn; have hzn : w.heap.size < wn.heap.size := (by have := hbn.size; (try simp at this); omega); have hzn1 : w.heap.size + 1 < wn.heap.size := (by have := hbn.size; (try simp at this); omega); have hzn2 : w.heap.size + 1 + 1 < wn.heap.size := (by have := hbn.size; (try simp at this); omega)))
  have c0 : wn.cell? ⟨w.heap.size + 1 + 1, 0, none⟩ = some (.int .i64 0) := by simp [*, go_sem]
  have c1 : wn.cell? ⟨w.heap.size + 1 + 1, 1, none⟩ = some (.int .i64 0) := by simp [*, go_sem]
  exact bodyPost_ret (v := .tuple #[.agg #[.int .i64 (Quo.rT (t * m + s * 1) (1 * m)), .int .i64 (Quo.rL (t * m + s * 1) (1 * m))], .bool (Quo.rOk (t * m + s * 1) (1 * m))]) (by simp [results, Try.results46, go_sem, c0, c1]) rfl ⟨rfl, (by repeat (first | assumption | exact Below.refl _ _ | (refine below_chain ?_ (by assumption) (by first | omega | (simp <;> omega) | simp)) | (refine Below.alloc ?_ (by first | omega | (simp <;> omega) | simp) _) | (apply below_drewN) | (apply below_drew) | (refine Below.setCell ?_ (by first | omega | (simp <;> omega) | simp) _)))⟩

theorem iAdd_l1 (t l s : Int) (w : World) (h1 : Quo.qv t l = true) (h2 : Quo.qv s 1 = true) (k1 : l ≠ 1) :
    Calls Try.prog 46 #[.agg #[.int .i64 t, .int .i64 l], .agg #[.int .i64 s, .int .i64 1]] w fun e w' => e = .returned (.tuple #[.agg #[.int .i64 (Quo.rT (t * 1 + s * l) (l * 1)), .int .i64 (Quo.rL (t * 1 + s * l) (l * 1))], .bool (Quo.rOk (t * 1 + s * l) (l * 1))]) ∧ Below w.heap.size w w' := by
  obtain ⟨b1, b2, b3, b4, -⟩ := Quo.qv_true h1
  obtain ⟨b5, b6, b7, b8, -⟩ := Quo.qv_true h2
  have mw := meth_whole
  have mb := meth_broken
  have cn := fun w => Lib.hid (numbersOf_is _ _ _ _ _ _ true true w (numB_more h1 k1) h1 (numB_one h2) h2)
  obtain ⟨p3, p4⟩ := Quo.mul_bd b7 b8 (show -1000000000 ≤ l by omega) b2
  clear h1 h2
  go_enter Try.func46, Try.ntmps46
  go_wp2_with (first | (go_at_call 93; (with_reducible refine ((cn _).out).mono ?_); rintro e wn ⟨rfl, hbn⟩; obtain ⟨hcn, hfn⟩ := bcell hbn; have hzn : w.heap.size < wn.heap.size := (by have := hbn.size; (try simp at this); omega); have hzn1 : w.heap.size + 1 < wn.heap.size := (by have := hbn.size; (try simp at this); omega); have hzn2 : w.heap.size + 1 + 1 < wn.heap.size := (by have := hbn.size; (try simp at this); omega)) | (go_at_call 144; (with_reducible refine (parts_whole _ _).mono ?_); rintro e w' ⟨rfl, rfl⟩) | (go_at_call 145; (with_reducible refine (parts_broken _ _ _).mono ?_); rintro e wn ⟨rfl, hbn⟩; obtain ⟨hcn, hfn⟩ := bcell hbn; have hzn : w.heap.size < wn.heap.size := (by have := hbn.size; (try simp at this); omega); have hzn1 : w.heap.size + 1 < wn.heap.size := (by have := hbn.size; (try simp at this); omega); have hzn2 : w.heap.size + 1 + 1 < wn.heap.size := (by have := hbn.size; (try simp at this); omega)) | (go_at_call 91; (with_reducible refine (iof_any _ _ _).mono ?_); rintro e wn ⟨rfl, hbn⟩; obtain ⟨hcn, hfn⟩ := bcell hbn; have hzn : w.heap.size < wn.heap.size := (by have := hbn.size; (try simp at this); omega); have hzn1 : w.heap.size + 1 < wn.heap.size := (by have := hbn.size; (try simp at this); omega); have hzn2 : w.heap.size + 1 + 1 < wn.heap.size := (by have := hbn.size; (try simp at this); omega)))
  have c0 : wn.cell? ⟨w.heap.size + 1 + 1, 0, none⟩ = some (.int .i64 0) := by simp [*, go_sem]
  have c1 : wn.cell? ⟨w.heap.size + 1 + 1, 1, none⟩ = some (.int .i64 0) := by simp [*, go_sem]
  exact bodyPost_ret (v := .tuple #[.agg #[.int .i64 (Quo.rT (t * 1 + s * l) (l * 1)), .int .i64 (Quo.rL (t * 1 + s * l) (l * 1))], .bool (Quo.rOk (t * 1 + s * l) (l * 1))]) (by simp [results, Try.results46, go_sem, c0, c1]) rfl ⟨rfl, (by repeat (first | assumption | exact Below.refl _ _ | (refine below_chain ?_ (by assumption) (by first | omega | (simp <;> omega) | simp)) | (refine Below.alloc ?_ (by first | omega | (simp <;> omega) | simp) _) | (apply below_drewN) | (apply below_drew) | (refine Below.setCell ?_ (by first | omega | (simp <;> omega) | simp) _)))⟩

theorem iAdd_lm (t l s m : Int) (w : World) (h1 : Quo.qv t l = true) (h2 : Quo.qv s m = true) (k1 : l ≠ 1) (k2 : m ≠ 1) :
    Calls Try.prog 46 #[.agg #[.int .i64 t, .int .i64 l], .agg #[.int .i64 s, .int .i64 m]] w fun e w' => e = .returned (.tuple #[.agg #[.int .i64 (Quo.rT (t * m + s * l) (l * m)), .int .i64 (Quo.rL (t * m + s * l) (l * m))], .bool (Quo.rOk (t * m + s * l) (l * m))]) ∧ Below w.heap.size w w' := by
  obtain ⟨b1, b2, b3, b4, -⟩ := Quo.qv_true h1
  obtain ⟨b5, b6, b7, b8, -⟩ := Quo.qv_true h2
  have mw := meth_whole
  have mb := meth_broken
  have cn := fun w => Lib.hid (numbersOf_is _ _ _ _ _ _ true true w (numB_more h1 k1) h1 (numB_more h2 k2) h2)
  obtain ⟨p1, p2⟩ := Quo.mul_bd b3 b4 (show -1000000000 ≤ m by omega) b6
  obtain ⟨p3, p4⟩ := Quo.mul_bd b7 b8 (show -1000000000 ≤ l by omega) b2
  obtain ⟨p5, p6⟩ := Quo.mul_bd (show -1000000000 ≤ l by omega) b2 (show -1000000000 ≤ m by omega) b6
  clear h1 h2
  go_enter Try.func46, Try.ntmps46
  go_wp2_with (first | (go_at_call 93; (with_reducible refine ((cn _).out).mono ?_); rintro e wn ⟨rfl, hbn⟩; obtain ⟨hcn, hfn⟩ := bcell hbn; have hzn : w.heap.size < wn.heap.size := (by have := hbn.size; (try simp at this); omega); have hzn1 : w.heap.size + 1 < wn.heap.size := (by have := hbn.size; (try simp at this); omega); have hzn2 : w.heap.size + 1 + 1 < wn.heap.size := (by have := hbn.size; (try simp at this); omega)) | (go_at_call 144; (with_reducible refine (parts_whole _ _).mono ?_); rintro e w' ⟨rfl, rfl⟩) | (go_at_call 145; (with_reducible refine (parts_broken _ _ _).mono ?_); rintro e wn ⟨rfl, hbn⟩; obtain ⟨hcn, hfn⟩ := bcell hbn; have hzn : w.heap.size < wn.heap.size := (by have := hbn.size; (try simp at this); omega); have hzn1 : w.heap.size + 1 < wn.heap.size := (by have := hbn.size; (try simp at this); omega); have hzn2 : w.heap.size + 1 + 1 < wn.heap.size := (by have := hbn.size; (try simp at this); omega)) | (go_at_call 91; (with_reducible refine (iof_any _ _ _).mono ?_); rintro e wn ⟨rfl, hbn⟩; obtain ⟨hcn, hfn⟩ := bcell hbn; have hzn : w.heap.size < wn.heap.size := (by have := hbn.size; (try simp at this); omega); have hzn1 : w.heap.size + 1 < wn.heap.size := (by have := hbn.size; (try simp at this); omega); have hzn2 : w.heap.size + 1 + 1 < wn.heap.size := (by have := hbn.size; (try simp at this); omega)))
  have c0 : wn.cell? ⟨w.heap.size + 1 + 1, 0, none⟩ = some (.int .i64 0) := by simp [*, go_sem]
  have c1 : wn.cell? ⟨w.heap.size + 1 + 1, 1, none⟩ = some (.int .i64 0) := by simp [*, go_sem]
  exact bodyPost_ret (v := .tuple #[.agg #[.int .i64 (Quo.rT (t * m + s * l) (l * m)), .int .i64 (Quo.rL (t * m + s * l) (l * m))], .bool (Quo.rOk (t * m + s * l) (l * m))]) (by simp [results, Try.results46, go_sem, c0, c1]) rfl ⟨rfl, (by repeat (first | assumption | exact Below.refl _ _ | (refine below_chain ?_ (by assumption) (by first | omega | (simp <;> omega) | simp)) | (refine Below.alloc ?_ (by first | omega | (simp <;> omega) | simp) _) | (apply below_drewN) | (apply below_drew) | (refine Below.setCell ?_ (by first | omega | (simp <;> omega) | simp) _)))⟩

end Go.Proofs.Ytegcjdcinebleaa
namespace Go.Proofs.Ytegcjdcinebleaa
open Go.RowKit

theorem sign_any (n : Int) (w : World) :
    Calls Try.prog 79 #[.int .i64 n] w fun e w' => e = .returned (.int .i64 (Quo.sg n)) ∧ w = w' := by
  unfold Quo.sg
  by_cases h1 : n < 0
  · rw [if_pos h1]
    go_enter Try.func79, Try.ntmps79
    go_wp2
    go_ret
    exact ⟨ret_int (by omega), rfl⟩
  · by_cases h2 : 0 < n
    · rw [if_neg h1, if_pos h2]
      go_enter Try.func79, Try.ntmps79
      go_wp2
      go_ret
      exact ⟨ret_int (by omega), rfl⟩
    · obtain rfl : n = 0 := by omega
      rw [if_neg h1, if_neg h2]
      go_enter Try.func79, Try.ntmps79
      go_wp2
      go_ret
      exact ⟨ret_int (by omega), rfl⟩

theorem compare_any (x y : Int) (w : World) :
    Calls Try.prog 125 #[.int .i64 x, .int .i64 y] w fun e w' => e = .returned (.int .i64 (Quo.sg (x - y))) ∧ w = w' := by
  unfold Quo.sg
  by_cases h1 : x < y
  · rw [if_pos (by omega)]
    go_enter Try.func125, Try.ntmps125
    go_wp2
    go_ret
    exact ⟨rfl, rfl⟩
  · by_cases h2 : y < x
    · rw [if_neg (by omega), if_pos (by omega)]
      go_enter Try.func125, Try.ntmps125
      go_wp2
      go_ret
      exact ⟨rfl, rfl⟩
    · rw [if_neg (by omega), if_neg (by omega)]
      go_enter Try.func125, Try.ntmps125
      go_wp2
      go_ret
      exact ⟨rfl, rfl⟩

end Go.Proofs.Ytegcjdcinebleaa
namespace Go.Proofs.Ytegcjdcinebleaa
open Go.RowKit

theorem iAdd_any (t l s m : Int) (w : World) :
    Calls Try.prog 46 #[.agg #[.int .i64 t, .int .i64 l], .agg #[.int .i64 s, .int .i64 m]] w fun e w' => e = .returned (.tuple #[.agg #[.int .i64 (Quo.gT (Quo.both t l s m) (t * m + s * l) (l * m)), .int .i64 (Quo.gL (Quo.both t l s m) (t * m + s * l) (l * m))], .bool (Quo.gOk (Quo.both t l s m) (t * m + s * l) (l * m))]) ∧ Below w.heap.size w w' := by
  by_cases h : Quo.both t l s m = true
  · have h' := h
    unfold Quo.both at h'
    simp at h'
    have g1 : Quo.gT (Quo.both t l s m) (t * m + s * l) (l * m) = Quo.rT (t * m + s * l) (l * m) := by unfold Quo.gT; simp [h]
    have g2 : Quo.gL (Quo.both t l s m) (t * m + s * l) (l * m) = Quo.rL (t * m + s * l) (l * m) := by unfold Quo.gL; simp [h]
    have g3 : Quo.gOk (Quo.both t l s m) (t * m + s * l) (l * m) = Quo.rOk (t * m + s * l) (l * m) := by unfold Quo.gOk; simp [h]
    rw [g1, g2, g3]
    clear h g1 g2 g3
    obtain ⟨h1, h2⟩ := h'
    by_cases k1 : l = 1 <;> by_cases k2 : m = 1
    · subst k1 k2; exact iAdd_11 t s w h1 h2
    · subst k1; exact iAdd_1m t s m w h1 h2 k2
    · subst k2; exact iAdd_l1 t l s w h1 h2 k1
    · exact iAdd_lm t l s m w h1 h2 k1 k2
  · have h' : Quo.both t l s m = false := by simpa using h
    have g1 : Quo.gT (Quo.both t l s m) (t * m + s * l) (l * m) = 0 := by unfold Quo.gT; simp [h']
    have g2 : Quo.gL (Quo.both t l s m) (t * m + s * l) (l * m) = 0 := by unfold Quo.gL; simp [h']
    have g3 : Quo.gOk (Quo.both t l s m) (t * m + s * l) (l * m) = false := by unfold Quo.gOk; simp [h']
    rw [g1, g2, g3]
    exact iAdd_no t l s m w h'

end Go.Proofs.Ytegcjdcinebleaa
