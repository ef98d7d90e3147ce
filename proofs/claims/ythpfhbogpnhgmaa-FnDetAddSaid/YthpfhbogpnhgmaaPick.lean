/-
  The reader of the draws: whatever the code, pick returns a number from 0 to n - 1 and moves on by one place; nothing else that existed is changed.
-/
import Derived.Test.YthpfhbogpnhgmaaProg
import Derived.WalkKit
import Derived.RegionTactic
import Derived.Deep.QuietTactic
import Derived.BigQuiet
import Derived.IntWalk
import Derived.Lib.Hide
import Derived.Below
import Derived.Laws.AppendOwn
import Derived.Laws.BitsAllLaws
import Derived.Laws.BitsLemmas
import Derived.Deep.DeepCutAuto
namespace Go.Proofs.Ythpfhbogpnhgmaa
open Go.RowKit
set_option linter.unusedVariables false

theorem pick_none (R : Nat) (p : Nat) (n : Int) (a : Option Addr) (c : Nat) (w : World) (hp : p ≤ 1000000000) (h0 : w.cell? ⟨R, 0, none⟩ = some (.slice a 0 c)) (h1 : w.cell? ⟨R, 1, none⟩ = some (.int .i64 p)) (hf : w.frozen? ⟨R, 1, none⟩ = false) (hn : 1 ≤ n) (hn' : n ≤ 1000000) :
    Calls Try.prog 44 #[.pointer (some ⟨R, 0, none⟩), .int .i64 n] w fun e w' => e = .returned (.int .i64 0) ∧ w' = w.setCell ⟨R, 1, none⟩ (.int .i64 ((p : Int) + 1)) := by
  go_enter Try.func44, Try.ntmps44
  go_wp2
  go_ret
  exact ⟨rfl, rfl⟩

theorem pick_code (R D off len cap : Nat) (p : Nat) (n x : Int) (w : World) (hp : p ≤ 1000000000) (h0 : w.cell? ⟨R, 0, none⟩ = some (.slice (some ⟨D, off, none⟩) len cap)) (h1 : w.cell? ⟨R, 1, none⟩ = some (.int .i64 p)) (hf : w.frozen? ⟨R, 1, none⟩ = false) (hn : 1 ≤ n) (hn' : n ≤ 1000000)
    (hl : len ≤ 2000) (hpl : p < len) (hD : D ≠ R) (hx : w.cell? ⟨D, off + p, none⟩ = some (.int .u8 x)) (x0 : 0 ≤ x) (x1 : x ≤ 255) :
    Calls Try.prog 44 #[.pointer (some ⟨R, 0, none⟩), .int .i64 n] w fun e w' => e = .returned (.int .i64 (x % n)) ∧ w' = w.setCell ⟨R, 1, none⟩ (.int .i64 ((p : Int) + 1)) := by
  have e1 : ((len : Int) == 0) = false := by simp; omega
  have e2 : (n == 0) = false := by simp; omega
  go_enter Try.func44, Try.ntmps44
  go_wp2
  go_ret
  exact ⟨rfl, rfl⟩

theorem ofInt_i64 (a : Nat) (ha : a < 9223372036854775808) : (BitVec.ofInt 64 (a : Int)).toNat = a := by
  rw [BitVec.ofInt_natCast, BitVec.toNat_ofNat]; exact Nat.mod_eq_of_lt (by omega)
theorem i64_xor_nat (a b : Nat) (ha : a < 9223372036854775808) (hb : b < 9223372036854775808) : bits .xor .i64 (a : Int) (b : Int) = ((a ^^^ b : Nat) : Int) := by
  have hx : a ^^^ b < 2 ^ 63 := Nat.xor_lt_two_pow (by omega) (by omega)
  show IntKind.i64.wrap ((BitVec.ofInt 64 (a : Int) ^^^ BitVec.ofInt 64 (b : Int)).toNat : Int) = _
  rw [BitVec.toNat_xor, ofInt_i64 a ha, ofInt_i64 b hb, IntKind.wrap_i64]
  omega
theorem mixed (z : Nat) (n : Int) (hz : z ≤ 1000000000000) (hn : 1 ≤ n) : 0 ≤ (bits .xor .i64 (z : Int) ((z : Int) / 64)).tmod n ∧ (bits .xor .i64 (z : Int) ((z : Int) / 64)).tmod n < n := by
  have e : bits .xor .i64 (z : Int) ((z : Int) / 64) = ((z ^^^ (z / 64) : Nat) : Int) := by
    rw [← i64_xor_nat z (z / 64) (by omega) (by omega)]; rfl
  rw [e]
  exact ⟨Int.tmod_nonneg _ (by omega), Int.tmod_lt_of_pos _ (by omega)⟩
theorem sums (x y : Int) (p len : Nat) (x0 : 0 ≤ x) (x1 : x ≤ 255) (y0 : 0 ≤ y) (y1 : y ≤ 255) (hp : p ≤ 1000000000) :
    ∃ z : Nat, IntKind.i64.wrap (IntKind.i64.wrap (IntKind.i64.wrap (IntKind.i64.wrap (IntKind.i64.wrap x * 131) + IntKind.i64.wrap (IntKind.i64.wrap y * 1117)) + IntKind.i64.wrap ((p : Int) * 29)) + IntKind.i64.wrap (IntKind.i64.wrap ((p : Int) / len) * 53)) = (z : Int) ∧ z ≤ 1000000000000 := by
  have hq : (p : Int) / len ≤ p := Int.ediv_le_self _ (by omega)
  have hq0 : 0 ≤ (p : Int) / len := Int.ediv_nonneg (by omega) (by omega)
  generalize (p : Int) / len = q at *
  rw [IntWalk.i64_in x (by omega), IntWalk.i64_in y (by omega), IntWalk.i64_in q (by omega), IntWalk.i64_in (x * 131) (by omega), IntWalk.i64_in (y * 1117) (by omega), IntWalk.i64_in ((p : Int) * 29) (by omega), IntWalk.i64_in (q * 53) (by omega), IntWalk.i64_in (x * 131 + y * 1117) (by omega), IntWalk.i64_in (x * 131 + y * 1117 + (p : Int) * 29) (by omega), IntWalk.i64_in _ (by omega)]
  exact ⟨(x * 131 + y * 1117 + (p : Int) * 29 + q * 53).toNat, by omega, by omega⟩

set_option maxRecDepth 100000 in
theorem pick_past (R D off len cap : Nat) (p : Nat) (n x y : Int) (w : World) (hp : p ≤ 1000000000) (h0 : w.cell? ⟨R, 0, none⟩ = some (.slice (some ⟨D, off, none⟩) len cap)) (h1 : w.cell? ⟨R, 1, none⟩ = some (.int .i64 p)) (hf : w.frozen? ⟨R, 1, none⟩ = false) (hn : 1 ≤ n) (hn' : n ≤ 1000000)
    (hl : len ≤ 2000) (hl0 : 0 < len) (hpl : len ≤ p) (hD : D ≠ R)
    (hx : w.cell? ⟨D, off + ((p : Int).tmod len).toNat, none⟩ = some (.int .u8 x)) (x0 : 0 ≤ x) (x1 : x ≤ 255)
    (hy : w.cell? ⟨D, off + (((p : Int) * 7 + 3).tmod len).toNat, none⟩ = some (.int .u8 y)) (y0 : 0 ≤ y) (y1 : y ≤ 255) :
    Calls Try.prog 44 #[.pointer (some ⟨R, 0, none⟩), .int .i64 n] w fun e w' => ∃ m : Int, 0 ≤ m ∧ m < n ∧ e = .returned (.int .i64 m) ∧ ∃ j, w' = (w.setCell ⟨R, 1, none⟩ (.int .i64 ((p : Int) + 1))).drewN j := by
  have e1 : ((len : Int) == 0) = false := by simp; omega
  have e2 : (n == 0) = false := by simp; omega
  have e3 : (len == 0) = false := by simp; omega
  have e4 : ¬ len = 0 := by omega
  have i0 : 0 ≤ (p : Int).tmod len := Int.tmod_nonneg _ (by omega)
  have i1 : (p : Int).tmod len < len := Int.tmod_lt_of_pos _ (by omega)
  have hq : IntKind.i64.wrap (IntKind.i64.wrap ((p : Int) * 7) + 3) = (p : Int) * 7 + 3 := by rw [IntWalk.i64_in ((p : Int) * 7) (by omega), IntWalk.i64_in _ (by omega)]
  have j0 : 0 ≤ (IntKind.i64.wrap (IntKind.i64.wrap ((p : Int) * 7) + 3)).tmod len := by rw [hq]; exact Int.tmod_nonneg _ (by omega)
  have j1 : (IntKind.i64.wrap (IntKind.i64.wrap ((p : Int) * 7) + 3)).tmod len < len := by rw [hq]; exact Int.tmod_lt_of_pos _ (by omega)
  rw [← hq] at hy
  clear hq
  have hE := Lib.hid (sums x y p len x0 x1 y0 y1 hp)
  go_enter Try.func44, Try.ntmps44
  go_upto_region 7 with fail
  go_cut [6] (fun s6 wx => ∃ z j : Nat, s6 = .int .i64 z ∧ z ≤ 1000000000000 ∧ wx = (w.setCell ⟨R, 1, none⟩ (.int .i64 ((p : Int) + 1))).drewN j)
  case first =>
    go_quiet (fail)
    go_wp2_with fail
    go_meet
    obtain ⟨z, hz, hz'⟩ := hE.out
    exact ⟨z, _, by rw [hz], hz', rfl⟩
  case rest =>
    obtain ⟨z, j, rfl, hz, rfl⟩ := hcut
    have hm := Lib.hid (mixed z n hz hn)
    go_wp2_with fail
    go_ret
    exact ⟨_, hm.out.1, hm.out.2, rfl, j, rfl⟩
end Go.Proofs.Ythpfhbogpnhgmaa
