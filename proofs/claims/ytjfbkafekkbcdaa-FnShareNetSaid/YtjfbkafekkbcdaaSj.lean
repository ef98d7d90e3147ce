/-
  Helpers of the laws on shares: sums, floors toward zero where the division is exact, lists that are equal.
-/
import Derived.Test.YtjfbkafekkbcdaaSy
import Derived.Test.YtjfbkafekkbcdaaNy
namespace Go.Proofs.Ytjfbkafekkbcdaa
open Go.RowKit
set_option linter.unusedVariables false

theorem lSum (k c : Nat) (p : Option Addr) (L : List Int) (w : World) (h : Ints w p L) (hk : L.length = k) (hl : k ≤ 1000) (hB : ∀ z ∈ L, -1000000000 ≤ z ∧ z ≤ 1000000000) :
    Calls Try.prog 18 #[.slice p k c] w fun e w' => e = .returned (.int .i64 (tot L)) ∧ w = w' := by
  have H := Lib.hid (And.intro h (And.intro hk hB))
  clear h hk hB
  go_enter Try.func18, Try.ntmps18
  go_wp2_with fail
  go_loopw [3, 4] (fun s i wr => ∃ j : Nat, j ≤ k ∧ i = .int .i64 j ∧ s = .int .i64 (tot (L.take j)) ∧ w = wr) (fun _ i _ => k - (intOf i).toNat)
  case atStart => exact ⟨0, Nat.zero_le _, rfl, rfl, rfl⟩
  case round =>
    obtain ⟨j, hj, rfl, rfl, rfl⟩ := hrel
    have hb := tot_low (L := L.take j) (fun z hz => H.out.2.2 z (List.mem_of_mem_take hz)) (by rw [List.length_take]; omega)
    obtain ⟨s, hs⟩ : ∃ s, tot (L.take j) = s := ⟨_, rfl⟩
    rw [hs] at hb ⊢
    obtain ⟨s0, s1⟩ := hb
    by_cases hlt : j < k
    · obtain ⟨B, o, z, rfl, hz, hB, e0⟩ := H.out.1.at (i := j) (by have := H.out.2.1; omega)
      obtain ⟨z0, z1⟩ := H.out.2.2 z (List.mem_of_getElem? hz)
      have HS : Hid (tot (L.take (j + 1)) = s + z) := Lib.hid (by rw [tot_take hz, hs])
      clear hz hs
      go_wp2_with fail
      go_roundw
      case rel => exact ⟨j + 1, by omega, by go_num, by rw [HS.out], by first | trivial | rfl⟩
      case measure => simp [intOf]; omega
    · have e : j = k := by omega
      subst e
      have HX : Hid (tot L = s) := Lib.hid (by rw [← hs, List.take_of_length_le (Nat.le_of_eq H.out.2.1)])
      clear hs
      go_wp2_with fail
      go_ret
      exact ⟨ret_int HX.out.symm, rfl⟩
theorem sameInts_at' {n : Nat} {zs : List Int} (hn : zs.length = n) (p q : Option Addr) (c d : Nat) (w : World) (hp : Ints w p zs) (hq : Ints w q zs) (hl : n ≤ 4000000000000000000) :
    Calls Try.prog 17 #[.slice p n c, .slice q n d] w fun e w' => e = .returned (.bool true) ∧ Below w.heap.size w w' := by subst hn; exact sameInts_is p q c d zs w hp hq hl
/-- where the sum of all lengths divides the amount -/
theorem shr_div {ls : List Int} {a : Int} (h : lenOk ls = true) (hd : a.tmod (tot ls) = 0) (i : Nat) : sh ls a i = a.tdiv (tot ls) * nth ls i := by
  refine shr_exact h ?_ i
  have := Int.tmod_add_mul_tdiv a (tot ls)
  omega
theorem tdiv_low {a s : Int} (hs : 0 < s) (h0 : -10000000 ≤ a) (h1 : a ≤ 10000000) : -10000000 ≤ a.tdiv s ∧ a.tdiv s ≤ 10000000 := by
  have h3 := Int.natAbs_tdiv_le_natAbs a s
  omega
end Go.Proofs.Ytjfbkafekkbcdaa
