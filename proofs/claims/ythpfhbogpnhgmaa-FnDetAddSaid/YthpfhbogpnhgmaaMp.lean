/-
  How the program reads matrices and columns, and sums products.
-/
import Derived.Test.YthpfhbogpnhgmaaMy
import Derived.Test.YthpfhbogpnhgmaaDw
import Derived.Test.YthpfhbogpnhgmaaNj
namespace Go.Proofs.Ythpfhbogpnhgmaa
open Go.RowKit
set_option linter.unusedVariables false

theorem ret_int' {x y : Int} (h : x = y) : Value.int IntKind.i64 x = Value.int IntKind.i64 y := by rw [h]
theorem iAllWithin (k c : Nat) (p : Option Addr) (L : List Int) (m : Int) (b : Bool) (w : World) (h : Ints w p L) (hk : L.length = k) (hl : k ≤ 4000000000000000000) (hm : 0 ≤ m) (hm' : m ≤ 4000000000000000000) (hb : decide (∀ z ∈ L, -m ≤ z ∧ z ≤ m) = b) :
    Calls Try.prog 61 #[.slice p k c, .int .i64 m] w fun e w' => e = .returned (.bool b) ∧ w = w' := by
  have H := Lib.hid (And.intro h (And.intro hk hb))
  clear h hk hb
  go_enter Try.func61, Try.ntmps61
  go_wp2_with fail
  go_loopw [9] (fun i wr => ∃ j : Nat, j ≤ k ∧ i = .int .i64 j ∧ (∀ z ∈ L.take j, -m ≤ z ∧ z ≤ m) ∧ w = wr) (fun i _ => k - (intOf i).toNat)
  case atStart => exact ⟨0, Nat.zero_le _, rfl, by simp, rfl⟩
  case round =>
    obtain ⟨j, hj, rfl, hn, rfl⟩ := hrel
    by_cases hlt : j < k
    · obtain ⟨B, o, y, rfl, hy, hB, e0⟩ := H.out.1.at (i := j) (by have := H.out.2.1; omega)
      have hlt' : (j : Int) < (k : Int) := by omega
      by_cases hyz : -m ≤ y ∧ y ≤ m
      · have c1 := fun w => Lib.hid (nWithin y m true w hm hm' (decide_eq_true hyz))
        have HN : Hid (∀ z ∈ L.take (j + 1), -m ≤ z ∧ z ≤ m) := Lib.hid (by
          rw [List.take_add_one, hy]; intro z hz
          rcases List.mem_append.1 hz with h | h
          · exact hn z h
          · simp at h; subst h; exact hyz)
        clear hy hn hyz
        go_wp2_with ((go_at_call 64; (with_reducible refine ((c1 _).out).mono ?_); rintro e w' ⟨rfl, rfl⟩))
        go_roundw
        case rel => exact ⟨j + 1, by omega, by go_num, HN.out, by first | trivial | rfl⟩
        case measure => simp [intOf]; omega
      · have c1 := fun w => Lib.hid (nWithin y m false w hm hm' (decide_eq_false hyz))
        have HB : Hid (false = b) := Lib.hid (by
          rw [← H.out.2.2]
          exact (decide_eq_false (fun hc => hyz (hc y (List.mem_of_getElem? hy)))).symm)
        clear hy hn hyz
        go_wp2_with ((go_at_call 64; (with_reducible refine ((c1 _).out).mono ?_); rintro e w' ⟨rfl, rfl⟩))
        go_ret
        exact ⟨ret_bool HB.out, rfl⟩
    · have e : j = k := by omega
      subst e
      have HB : Hid (true = b) := Lib.hid (by
        rw [← H.out.2.2]
        rw [List.take_of_length_le (Nat.le_of_eq H.out.2.1)] at hn
        exact (decide_eq_true hn).symm)
      clear hn
      go_wp2_with fail
      go_ret
      exact ⟨ret_bool HB.out, rfl⟩
/-- a column of as many numbers as there are rows, within a limit -/
theorem iColumn (k n c d : Nat) (p q : Option Addr) (xs : List Int) (m : Int) (b : Bool) (w : World) (h : Ints w q xs) (hn : xs.length = n) (hl : k ≤ 4000000000000000000) (hm : 0 ≤ m) (hm' : m ≤ 4000000000000000000) (hb : decide (n = k ∧ ∀ z ∈ xs, -m ≤ z ∧ z ≤ m) = b) :
    Calls Try.prog 49 #[.slice p k c, .slice q n d, .int .i64 m] w fun e w' => e = .returned (.bool b) ∧ w = w' := by
  by_cases e : n = k
  · have c1 := fun w h => Lib.hid (iAllWithin n d q xs m b w h hn (by omega) hm hm' (by rw [← hb]; exact decide_eq_decide.2 ⟨fun h => ⟨e, h⟩, fun h => h.2⟩))
    have H := Lib.hid h
    subst e
    clear h hn hb
    go_enter Try.func49, Try.ntmps49
    go_wp2_with (go_at_call 61; (with_reducible refine ((c1 _ ?_).out).mono ?_); (focus (exact H.out; done)); rintro e w' ⟨rfl, rfl⟩)
    go_ret
    exact ⟨rfl, rfl⟩
  · have e' : ¬ (n : Int) = (k : Int) := by omega
    have HB : Hid (false = b) := Lib.hid (by rw [← hb]; exact (decide_eq_false (fun h => e h.1)).symm)
    clear h hn hb
    go_enter Try.func49, Try.ntmps49
    go_wp2_with fail
    go_ret
    exact ⟨ret_bool HB.out, rfl⟩
theorem iMatValidW (k c : Nat) (p : Option Addr) (L : List (List Int)) (b : Bool) (w : World) (h : GRead w p L) (hk : L.length = k) (hb : matOk L = b) :
    Calls Try.prog 33 #[.slice p k c] w fun e w' => e = .returned (.bool b) ∧ w = w' := by
  have H := Lib.hid (And.intro h (And.intro hk hb))
  clear h hk hb
  by_cases hr : 1 ≤ k ∧ k ≤ 5
  · obtain ⟨hr1, hr5⟩ := hr
    go_enter Try.func33, Try.ntmps33
    go_wp2_with fail
    go_loopw [15] (fun i wr => ∃ j : Nat, j ≤ k ∧ i = .int .i64 j ∧ (∀ r ∈ L.take j, rowOk k r) ∧ w = wr) (fun i _ => k - (intOf i).toNat)
    case atStart => exact ⟨0, Nat.zero_le _, rfl, by simp, rfl⟩
    case round =>
      obtain ⟨j, hj, rfl, hn, rfl⟩ := hrel
      by_cases hlt : j < k
      · obtain ⟨B, o, r, q, cq, rfl, hr, hB, e0, hcq, hi⟩ := H.out.1.at (i := j) (by have := H.out.2.1; omega)
        have hlt' : (j : Int) < (k : Int) := by omega
        obtain ⟨n, hrn⟩ : ∃ n, r.length = n := ⟨_, rfl⟩
        rw [hrn] at e0
        have HI := Lib.hid hi
        by_cases hrk : rowOk k r
        · have c1 := fun p c w h => Lib.hid (iColumn k n c cq p q r 1000 true w h hrn (by omega) (by omega) (by omega) (decide_eq_true ⟨by rw [← hrn]; exact hrk.1, hrk.2⟩))
          have HN : Hid (∀ r ∈ L.take (j + 1), rowOk k r) := Lib.hid (by
            rw [List.take_add_one, hr]; intro y hy
            rcases List.mem_append.1 hy with h | h
            · exact hn y h
            · simp at h; subst h; exact hrk)
          clear hn hr hrk hrn hi hcq
          go_wp2_with (go_at_call 49; (with_reducible refine ((c1 _ _ _ ?_).out).mono ?_); (focus (exact HI.out; done)); rintro e w' ⟨rfl, rfl⟩)
          go_roundw
          case rel => exact ⟨j + 1, by omega, by go_num, HN.out, by first | trivial | rfl⟩
          case measure => simp [intOf]; omega
        · have c1 := fun p c w h => Lib.hid (iColumn k n c cq p q r 1000 false w h hrn (by omega) (by omega) (by omega) (decide_eq_false (fun h => hrk ⟨by rw [hrn]; exact h.1, h.2⟩)))
          have HB : Hid (false = b) := Lib.hid (by
            rw [← H.out.2.2]
            exact (matOk_no H.out.2.1 (fun hc => hrk (hc.2 r (List.mem_of_getElem? hr)))).symm)
          clear hn hr hrk hrn hi hcq
          go_wp2_with (go_at_call 49; (with_reducible refine ((c1 _ _ _ ?_).out).mono ?_); (focus (exact HI.out; done)); rintro e w' ⟨rfl, rfl⟩)
          go_ret
          exact ⟨ret_bool HB.out, rfl⟩
      · have e : j = k := by omega
        subst e
        have HB : Hid (true = b) := Lib.hid (by
          obtain ⟨h, hk, hb⟩ := H.out
          rw [List.take_of_length_le (Nat.le_of_eq hk)] at hn
          rw [← hb]
          exact ((matOk_rows hk).2 ⟨⟨hr1, hr5⟩, hn⟩).symm)
        clear hn
        go_wp2_with fail
        go_ret
        exact ⟨ret_bool HB.out, rfl⟩
  · have HB : Hid (false = b) := Lib.hid (by rw [← H.out.2.2]; exact (matOk_no H.out.2.1 (fun hc => hr hc.1)).symm)
    go_enter Try.func33, Try.ntmps33
    by_cases h1 : k < 1
    · have h1' : (k : Int) < 1 := by omega
      go_wp2_with fail
      go_ret
      exact ⟨ret_bool HB.out, rfl⟩
    · have h1' : ¬ (k : Int) < 1 := by omega
      have h5 : (5 : Int) < (k : Int) := by omega
      go_wp2_with fail
      go_ret
      exact ⟨ret_bool HB.out, rfl⟩
/-- a sum of products -/
theorem iProductSum (n c d : Nat) (p q : Option Addr) (xs ys : List Int) (w : World) (h : Ints w p xs) (hq : Ints w q ys) (hn : xs.length = n) (hm : ys.length = n) (h5 : n ≤ 5) (hx : ∀ i, i < n → -1000 ≤ num xs i ∧ num xs i ≤ 1000) (hy : ∀ i, i < n → -1000000 ≤ num ys i ∧ num ys i ≤ 1000000) :
    Calls Try.prog 50 #[.slice p n c, .slice q n d] w fun e w' => e = .returned (.int .i64 (smn n (fun i => num xs i * num ys i))) ∧ w = w' := by
  have H := Lib.hid (And.intro h (And.intro hq (And.intro hn (And.intro hm (And.intro hx hy)))))
  clear h hq hn hm hx hy
  go_enter Try.func50, Try.ntmps50
  go_wp2_with fail
  go_loopw [5, 11] (fun s i wr => ∃ j : Nat, j ≤ n ∧ i = .int .i64 j ∧ s = .int .i64 (smn j (fun i => num xs i * num ys i)) ∧ w = wr) (fun _ i _ => n - (intOf i).toNat)
  case atStart => exact ⟨0, Nat.zero_le _, rfl, rfl, rfl⟩
  case round =>
    obtain ⟨j, hj, rfl, rfl, rfl⟩ := hrel
    have hb := sm_abs (n := j) (f := fun i => num xs i * num ys i) (c := 1000000000) (fun i hi => by
      have := abs_mul (x := 1000) (y := 1000000) (H.out.2.2.2.2.1 i (by omega)) (H.out.2.2.2.2.2 i (by omega)); omega)
    obtain ⟨s, hs⟩ : ∃ s, smn j (fun i => num xs i * num ys i) = s := ⟨_, rfl⟩
    rw [hs] at hb ⊢
    by_cases hlt : j < n
    · obtain ⟨B, o, y, rfl, hy, hB, e0⟩ := H.out.1.at (i := j) (by rw [H.out.2.2.1]; exact hlt)
      obtain ⟨B2, o2, z, rfl, hz, hB2, e2⟩ := H.out.2.1.at (i := j) (by rw [H.out.2.2.2.1]; exact hlt)
      have hlt' : (j : Int) < (n : Int) := by omega
      have hyb := H.out.2.2.2.2.1 j hlt
      have hzb := H.out.2.2.2.2.2 j hlt
      rw [num_at hy] at hyb
      rw [num_at hz] at hzb
      have hpb := abs_mul (x := 1000) (y := 1000000) hyb hzb
      have HN : Hid (smn (j + 1) (fun i => num xs i * num ys i) = s + y * z) := Lib.hid (by simp only [smn]; rw [hs, num_at hy, num_at hz])
      obtain ⟨P, hP⟩ : ∃ P, y * z = P := ⟨_, rfl⟩
      rw [hP] at hpb HN
      have q1 : IntKind.i64.wrap (y * z) = P := by rw [hP, IntKind.wrap_i64]; omega
      have q2 : IntKind.i64.wrap (s + P) = s + P := by rw [IntKind.wrap_i64]; omega
      clear hy hz hs
      go_wp2_with fail
      exact ⟨⟨j + 1, by omega, by go_num, ret_int' HN.out.symm, trivial⟩, by simp [intOf]; omega⟩
    · have e : j = n := by omega
      subst e
      have HN := Lib.hid hs
      clear hs
      go_wp2_with fail
      go_ret
      exact ⟨ret_int HN.out.symm, rfl⟩
end Go.Proofs.Ythpfhbogpnhgmaa
