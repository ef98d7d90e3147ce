/-
  The least and the greatest of a list of integers.
-/
import Derived.Test.YtjfbkafekkbcdaaNLs
namespace Go.Proofs.Ytjfbkafekkbcdaa
open Go.RowKit
set_option linter.unusedVariables false

def MinTo (zs : List Int) (k : Nat) (m : Int) : Prop := m ∈ zs ∧ ∀ (i : Nat) (z : Int), i < k → zs[i]? = some z → m ≤ z
def MaxTo (zs : List Int) (k : Nat) (m : Int) : Prop := m ∈ zs ∧ ∀ (i : Nat) (z : Int), i < k → zs[i]? = some z → z ≤ m
set_option maxHeartbeats 1000000 in
theorem min_is (p : Option Addr) (c : Nat) (zs : List Int) (w : World) (h : Ints w p zs) (h0 : 0 < zs.length) (hl : zs.length ≤ 1000000) :
    Calls Try.prog 79 #[.slice p zs.length c] w fun e w' => (∃ m, e = .returned (.int .i64 m) ∧ m ∈ zs ∧ ∀ x ∈ zs, m ≤ x) ∧ w = w' := by
  have H := Lib.hid h
  obtain ⟨B, o, z0, rfl, hz, hB, e0⟩ := h.at h0
  rw [Nat.add_zero] at e0
  have HZ := Lib.hid hz
  have hl1 : ¬ (zs.length : Int) < 1 := by omega
  have hl0 : (0 : Int) < (zs.length : Int) := by omega
  clear h hz
  go_enter Try.func79, Try.ntmps79
  go_wp2_with fail
  go_loopw [3, 4] (fun v i wr => ∃ (k : Nat) (m : Int), k ≤ zs.length ∧ i = .int .i64 k ∧ v = .int .i64 m ∧ MinTo zs k m ∧ w = wr) (fun _ i _ => zs.length - (intOf i).toNat)
  case atStart => exact ⟨1, z0, by omega, rfl, rfl, ⟨List.mem_of_getElem? HZ.out, fun i z hi hz => by (obtain rfl : i = 0 := (by omega)); rw [HZ.out] at hz; cases hz; omega⟩, rfl⟩
  case round =>
    obtain ⟨k, m, hk, rfl, rfl, hm, rfl⟩ := hrel
    have HM := Lib.hid hm
    clear hm e0
    by_cases hlt : k < zs.length
    · obtain ⟨B', o', z, e', hz, -, e1⟩ := H.out.at hlt
      simp at e'
      obtain ⟨rfl, rfl⟩ := e'
      obtain ⟨m', hm'⟩ : ∃ m', min m z = m' := ⟨_, rfl⟩
      have hrm := fun (w : World) (ts : Array TypeId) (t : TypeId) => run_min Try.prog ts t m z m' w hm'
      have HZ2 := Lib.hid (And.intro hz hm')
      clear hz hm'
      go_wp2_with fail
      go_roundw
      case rel =>
        obtain ⟨hz, hm'⟩ := HZ2.out
        refine ⟨k + 1, m', by omega, by go_num, rfl, ⟨?_, fun i z' hi hz' => ?_⟩, by first | trivial | rfl⟩
        · rcases Int.le_total m z with h | h
          · rw [← hm', Int.min_eq_left h]; exact HM.out.1
          · rw [← hm', Int.min_eq_right h]; exact List.mem_of_getElem? hz
        · by_cases e : i = k
          · subst e; rw [hz] at hz'; cases hz'; omega
          · have := HM.out.2 i z' (by omega) hz'; omega
      case measure => simp [intOf]; omega
    · have e : k = zs.length := by omega
      subst e
      go_wp2_with fail
      go_ret
      exact ⟨⟨m, rfl, HM.out.1, fun x hx => by obtain ⟨i, hi⟩ := List.getElem?_of_mem hx; exact HM.out.2 i x (List.getElem?_eq_some_iff.1 hi).1 hi⟩, by first | trivial | rfl⟩
set_option maxHeartbeats 1000000 in
theorem max_is (p : Option Addr) (c : Nat) (zs : List Int) (w : World) (h : Ints w p zs) (h0 : 0 < zs.length) (hl : zs.length ≤ 1000000) :
    Calls Try.prog 70 #[.slice p zs.length c] w fun e w' => (∃ m, e = .returned (.int .i64 m) ∧ m ∈ zs ∧ ∀ x ∈ zs, x ≤ m) ∧ w = w' := by
  have H := Lib.hid h
  obtain ⟨B, o, z0, rfl, hz, hB, e0⟩ := h.at h0
  rw [Nat.add_zero] at e0
  have HZ := Lib.hid hz
  have hl1 : ¬ (zs.length : Int) < 1 := by omega
  have hl0 : (0 : Int) < (zs.length : Int) := by omega
  clear h hz
  go_enter Try.func70, Try.ntmps70
  go_wp2_with fail
  go_loopw [3, 4] (fun v i wr => ∃ (k : Nat) (m : Int), k ≤ zs.length ∧ i = .int .i64 k ∧ v = .int .i64 m ∧ MaxTo zs k m ∧ w = wr) (fun _ i _ => zs.length - (intOf i).toNat)
  case atStart => exact ⟨1, z0, by omega, rfl, rfl, ⟨List.mem_of_getElem? HZ.out, fun i z hi hz => by (obtain rfl : i = 0 := (by omega)); rw [HZ.out] at hz; cases hz; omega⟩, rfl⟩
  case round =>
    obtain ⟨k, m, hk, rfl, rfl, hm, rfl⟩ := hrel
    have HM := Lib.hid hm
    clear hm e0
    by_cases hlt : k < zs.length
    · obtain ⟨B', o', z, e', hz, -, e1⟩ := H.out.at hlt
      simp at e'
      obtain ⟨rfl, rfl⟩ := e'
      obtain ⟨m', hm'⟩ : ∃ m', max m z = m' := ⟨_, rfl⟩
      have hrm := fun (w : World) (ts : Array TypeId) (t : TypeId) => run_max Try.prog ts t m z m' w hm'
      have HZ2 := Lib.hid (And.intro hz hm')
      clear hz hm'
      go_wp2_with fail
      go_roundw
      case rel =>
        obtain ⟨hz, hm'⟩ := HZ2.out
        refine ⟨k + 1, m', by omega, by go_num, rfl, ⟨?_, fun i z' hi hz' => ?_⟩, by first | trivial | rfl⟩
        · rcases Int.le_total m z with h | h
          · rw [← hm', Int.max_eq_right h]; exact List.mem_of_getElem? hz
          · rw [← hm', Int.max_eq_left h]; exact HM.out.1
        · by_cases e : i = k
          · subst e; rw [hz] at hz'; cases hz'; omega
          · have := HM.out.2 i z' (by omega) hz'; omega
      case measure => simp [intOf]; omega
    · have e : k = zs.length := by omega
      subst e
      go_wp2_with fail
      go_ret
      exact ⟨⟨m, rfl, HM.out.1, fun x hx => by obtain ⟨i, hi⟩ := List.getElem?_of_mem hx; exact HM.out.2 i x (List.getElem?_eq_some_iff.1 hi).1 hi⟩, by first | trivial | rfl⟩
end Go.Proofs.Ytjfbkafekkbcdaa
