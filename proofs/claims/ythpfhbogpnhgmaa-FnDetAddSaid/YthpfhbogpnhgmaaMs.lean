/-
  The reference model's check of a matrix.
-/
import Derived.Test.YthpfhbogpnhgmaaGr
import Derived.Test.YthpfhbogpnhgmaaDl
import Derived.Test.YthpfhbogpnhgmaaNa
namespace Go.Proofs.Ythpfhbogpnhgmaa
open Go.RowKit
set_option linter.unusedVariables false

/-- a row of a matrix of k rows -/
def rowOk (k : Nat) (r : List Int) : Prop := r.length = k ∧ ∀ x ∈ r, -1000 ≤ x ∧ x ≤ 1000
theorem matOk_rows {L : List (List Int)} {k : Nat} (hk : L.length = k) : matOk L = true ↔ (1 ≤ k ∧ k ≤ 5) ∧ ∀ r ∈ L, rowOk k r := by
  rw [matOk_true, hk]
  exact ⟨fun h => ⟨⟨h.1, h.2.1⟩, h.2.2⟩, fun h => ⟨h.1.1, h.1.2, h.2⟩⟩
theorem matOk_no {L : List (List Int)} {k : Nat} (hk : L.length = k) (h : ¬ ((1 ≤ k ∧ k ≤ 5) ∧ ∀ r ∈ L, rowOk k r)) : matOk L = false := by
  cases hm : matOk L
  · rfl
  · exact absurd ((matOk_rows hk).1 hm) h
set_option maxHeartbeats 2000000 in
theorem sMatValid (k c : Nat) (p : Option Addr) (L : List (List Int)) (b : Bool) (w : World) (h : GRead w p L) (hk : L.length = k) (hl : k ≤ 4000000000000000000) (hb : matOk L = b) :
    Calls Try.prog 31 #[.slice p k c] w fun e w' => e = .returned (.bool b) ∧ w = w' := by
  have H := Lib.hid (And.intro h (And.intro hk hb))
  clear h hk hb
  go_enter Try.func31, Try.ntmps31
  go_wp2_with fail
  go_loopw [3] (fun i wr => ∃ j : Nat, j ≤ k ∧ i = .int .i64 j ∧ (∀ r ∈ L.take j, rowOk k r) ∧ w = wr) (fun i _ => k - (intOf i).toNat)
  case atStart => exact ⟨0, Nat.zero_le _, rfl, by simp, rfl⟩
  case round =>
    obtain ⟨j, hj, rfl, hn, rfl⟩ := hrel
    by_cases hlt : j < k
    · obtain ⟨B, o, r, q, cq, rfl, hr, hB, e0, hcq, hi⟩ := H.out.1.at (i := j) (by have := H.out.2.1; omega)
      have hlt' : (j : Int) < (k : Int) := by omega
      by_cases hrl : r.length = k
      · rw [hrl] at e0
        have HI := Lib.hid (And.intro hi (And.intro hrl (And.intro hr hn)))
        clear hi hrl hr hn
        go_wp2_with fail
        go_loopw [4] (fun v wr => ∃ x : Nat, x ≤ k ∧ v = .int .i64 x ∧ (∀ z ∈ r.take x, -1000 ≤ z ∧ z ≤ 1000) ∧ w = wr) (fun v _ => k - (intOf v).toNat)
        case atStart => exact ⟨0, Nat.zero_le _, rfl, by simp, rfl⟩
        case round =>
          obtain ⟨x, hx, rfl, hz, rfl⟩ := hrel
          by_cases hxk : x < k
          · obtain ⟨A, o', z, rfl, hzz, hA, e1⟩ := HI.out.1.at (i := x) (by have := HI.out.2.1; omega)
            have hxk' : (x : Int) < (k : Int) := by omega
            by_cases hin : -1000 ≤ z ∧ z ≤ 1000
            · have c1 := fun w => Lib.hid (nIn z (-1000) 1000 true w (decide_eq_true hin))
              have HN : Hid (∀ z ∈ r.take (x + 1), -1000 ≤ z ∧ z ≤ 1000) := Lib.hid (by
                rw [List.take_add_one, hzz]; intro y hy
                rcases List.mem_append.1 hy with h | h
                · exact hz y h
                · simp at h; subst h; exact hin)
              clear hz hzz hin
              go_wp2_with ((go_at_call 51; (with_reducible refine ((c1 _).out).mono ?_); rintro e w' ⟨rfl, rfl⟩))
              go_roundw
              case rel => exact ⟨x + 1, by omega, by go_num, HN.out, by first | trivial | rfl⟩
              case measure => simp [intOf]; omega
            · have c1 := fun w => Lib.hid (nIn z (-1000) 1000 false w (decide_eq_false hin))
              have HB : Hid (false = b) := Lib.hid (by
                rw [← H.out.2.2]
                exact (matOk_no H.out.2.1 (fun hc => hin ((hc.2 r (List.mem_of_getElem? HI.out.2.2.1)).2 z (List.mem_of_getElem? hzz)))).symm)
              clear hz hzz hin
              go_wp2_with ((go_at_call 51; (with_reducible refine ((c1 _).out).mono ?_); rintro e w' ⟨rfl, rfl⟩))
              go_ret
              exact ⟨ret_bool HB.out, rfl⟩
          · have e : x = k := by omega
            subst e
            have HN : Hid (∀ r ∈ L.take (j + 1), rowOk x r) := Lib.hid (by
              obtain ⟨hi, hrl, hr, hn⟩ := HI.out
              rw [List.take_of_length_le (Nat.le_of_eq hrl)] at hz
              rw [List.take_add_one, hr]; intro y hy
              rcases List.mem_append.1 hy with h | h
              · exact hn y h
              · simp at h; subst h; exact ⟨hrl, hz⟩)
            clear hz
            go_wp2_with fail
            go_roundw
            case rel => exact ⟨j + 1, by omega, by go_num, HN.out, by first | trivial | rfl⟩
            case measure => simp [intOf]; omega
      · have hrl' : ¬ (r.length : Int) = (k : Int) := by omega
        have HB : Hid (false = b) := Lib.hid (by
          rw [← H.out.2.2]
          exact (matOk_no H.out.2.1 (fun hc => hrl (hc.2 r (List.mem_of_getElem? hr)).1)).symm)
        clear hi hrl hr hn
        go_wp2_with fail
        go_ret
        exact ⟨ret_bool HB.out, rfl⟩
    · have e : j = k := by omega
      subst e
      have HB : Hid (decide (1 ≤ (j : Int) ∧ (j : Int) ≤ 5) = b) := Lib.hid (by
        obtain ⟨h, hk, hb⟩ := H.out
        rw [List.take_of_length_le (Nat.le_of_eq hk)] at hn
        rw [← hb]
        by_cases h5 : 1 ≤ j ∧ j ≤ 5
        · rw [decide_eq_true (by omega)]; exact ((matOk_rows hk).2 ⟨h5, hn⟩).symm
        · rw [decide_eq_false (by omega)]; exact (matOk_no hk (fun hc => h5 hc.1)).symm)
      have c1 := fun w => Lib.hid (nIn j 1 5 b w HB.out)
      clear hn
      go_wp2_with ((go_at_call 51; (with_reducible refine ((c1 _).out).mono ?_); rintro e w' ⟨rfl, rfl⟩))
      go_ret
      exact ⟨rfl, rfl⟩
end Go.Proofs.Ythpfhbogpnhgmaa
