import Derived.Test.YtddmbjobibljaaaGreatDoorZa
import Derived.Test.YtddmbjobibljaaaGreatDoorQMath
namespace Go.Proofs.YtddmbjobibljaaaGreatDoor
open Go.RowKit


theorem common_any (a b : Int) (w : World) (ha : 0 ≤ a) (ha' : a ≤ 9223372036854775807) (hb : 0 ≤ b) (hb' : b ≤ 9223372036854775807) :
    Calls Tryz.prog 93 #[.int .i64 a, .int .i64 b] w fun e w' => e = .returned (.int .i64 (Int.gcd a b)) ∧ w = w' := by
  go_enter Tryz.func93, Tryz.ntmps93
  go_wp2
  go_loop [0, 1, 5] (fun x y _ => ∃ m n : Int, x = .int .i64 m ∧ y = .int .i64 n ∧ 0 ≤ m ∧ m ≤ 9223372036854775807 ∧ 0 ≤ n ∧ n ≤ 9223372036854775807 ∧ Hid (Int.gcd m n = Int.gcd a b)) (fun _ y _ => (intOf y).toNat)
  case atStart => exact ⟨a, b, rfl, rfl, ha, ha', hb, hb', Lib.hid rfl⟩
  case round =>
    obtain ⟨m, n, rfl, rfl, hm, hm', hn, hn', hg⟩ := hrel
    by_cases h0 : n = 0
    · subst h0
      go_wp2
      go_ret
      exact ⟨ret_int (by rw [← hg.out]; exact (Quo.gcd_zero m hm).symm), rfl⟩
    · have h1 : (n == 0) = false := by simpa using h0
      have ht := Int.emod_lt_of_pos m (show 0 < n by omega)
      have ht0 := Int.emod_nonneg m h0
      have hgs := Lib.hid (Quo.gcd_stepE m n)
      go_wp2
      go_round
      case rel => exact ⟨n, _, rfl, rfl, hn, hn', by omega, by omega, Lib.hid (by rw [hgs.out]; exact hg.out)⟩
      case measure => simp [intOf]; omega

theorem divisor_any (a b : Int) (w : World) (ha : -4000000000000000000 ≤ a) (ha' : a ≤ 4000000000000000000) (hb : -4000000000000000000 ≤ b) (hb' : b ≤ 4000000000000000000) :
    Calls Tryz.prog 77 #[.int .i64 a, .int .i64 b] w fun e w' => e = .returned (.int .i64 (Int.gcd a b)) ∧ ∃ k, w' = w.drewN k := by
  go_enter Tryz.func77, Tryz.ntmps77
  go_wp2
  go_loopw [0, 1] (fun x y wr => ∃ m n : Int, ∃ k, x = .int .i64 m ∧ y = .int .i64 n ∧ -4000000000000000000 ≤ m ∧ m ≤ 4000000000000000000 ∧ -4000000000000000000 ≤ n ∧ n ≤ 4000000000000000000 ∧ Hid (Int.gcd m n = Int.gcd a b) ∧ wr = w.drewN k) (fun _ y _ => (intOf y).natAbs)
  case atStart => exact ⟨a, b, 0, rfl, rfl, ha, ha', hb, hb', Lib.hid rfl, rfl⟩
  case round =>
    obtain ⟨m, n, k, rfl, rfl, hm, hm', hn, hn', hg, rfl⟩ := hrel
    by_cases h0 : n = 0
    · subst h0
      by_cases hs : m < 0
      · go_wp2
        go_ret
        exact ⟨ret_int (by rw [← hg.out]; exact (Quo.gcd_zero_neg m hs).symm), _, rfl⟩
      · go_wp2
        go_ret
        exact ⟨ret_int (by rw [← hg.out]; exact (Quo.gcd_zero m (by omega)).symm), _, rfl⟩
    · have h1 : (n == 0) = false := by simpa using h0
      have ht := Quo.tmod_lt m n h0
      have hgs := Lib.hid (Quo.gcd_step m n)
      go_wp2
      go_quiet (fail)
      go_roundw
      case rel => refine ⟨_, _, _, _, _, _, _, _, ⟨n, _, _, rfl, rfl, hn, hn', by omega, by omega, Lib.hid (by rw [hgs.out]; exact hg.out), World.drewN_drewN _ _ _⟩, rfl⟩
      case measure => exact ht

theorem within_yes (n m : Int) (w : World) (h1 : -m ≤ n) (h2 : n ≤ m) (hm : 0 ≤ m) (hm' : m ≤ 4000000000000000000) :
    Calls Tryz.prog 76 #[.int .i64 n, .int .i64 m] w fun e w' => e = .returned (.bool true) ∧ w = w' := by
  go_enter Tryz.func76, Tryz.ntmps76
  go_wp2
  go_ret
  exact ⟨ret_bool (by simp <;> omega), rfl⟩

theorem within_no (n m : Int) (w : World) (h : n < -m ∨ m < n) (hm : 0 ≤ m) (hm' : m ≤ 4000000000000000000) :
    Calls Tryz.prog 76 #[.int .i64 n, .int .i64 m] w fun e w' => e = .returned (.bool false) ∧ w = w' := by
  by_cases h1 : -m ≤ n
  · have h2 : ¬ n ≤ m := by omega
    clear h
    go_enter Tryz.func76, Tryz.ntmps76
    go_wp2
    go_ret
    exact ⟨ret_bool (by simp <;> omega), rfl⟩
  · clear h
    go_enter Tryz.func76, Tryz.ntmps76
    go_wp2
    go_ret
    exact ⟨ret_bool (by simp), rfl⟩

theorem in_yes (n l h : Int) (w : World) (h1 : l ≤ n) (h2 : n ≤ h) :
    Calls Tryz.prog 43 #[.int .i64 n, .int .i64 l, .int .i64 h] w fun e w' => e = .returned (.bool true) ∧ w = w' := by
  go_enter Tryz.func43, Tryz.ntmps43
  go_wp2
  go_ret
  exact ⟨ret_bool (by simp <;> omega), rfl⟩

theorem in_no (n l h : Int) (w : World) (h0 : n < l ∨ h < n) :
    Calls Tryz.prog 43 #[.int .i64 n, .int .i64 l, .int .i64 h] w fun e w' => e = .returned (.bool false) ∧ w = w' := by
  by_cases h1 : l ≤ n
  · have h2 : ¬ n ≤ h := by omega
    clear h0
    go_enter Tryz.func43, Tryz.ntmps43
    go_wp2
    go_ret
    exact ⟨ret_bool (by simp <;> omega), rfl⟩
  · clear h0
    go_enter Tryz.func43, Tryz.ntmps43
    go_wp2
    go_ret
    exact ⟨ret_bool (by simp), rfl⟩

theorem size_any (n : Int) (w : World) (h1 : -9223372036854775807 ≤ n) (h2 : n ≤ 9223372036854775807) :
    Calls Tryz.prog 94 #[.int .i64 n] w fun e w' => e = .returned (.int .i64 n.natAbs) ∧ w = w' := by
  by_cases h : 0 ≤ n
  all_goals
    go_enter Tryz.func94, Tryz.ntmps94
    go_wp2
    go_ret
    exact ⟨ret_int (by omega), rfl⟩
end Go.Proofs.YtddmbjobibljaaaGreatDoor
