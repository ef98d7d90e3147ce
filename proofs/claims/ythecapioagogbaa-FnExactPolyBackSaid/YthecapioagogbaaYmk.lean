/-
  How the laws mark a list of points and look for their marks.
-/
import Derived.Test.YthecapioagogbaaYp
namespace Go.Proofs.Ythecapioagogbaa
open Go.RowKit Poly
set_option linter.unusedVariables false

set_option maxHeartbeats 2000000 in
theorem markPts (g n cap : Nat) (xs : List Int) (w : World) (hp : Own w g 31 2 n cap xs) (hl : n ≤ 1048576) :
    Calls Try.prog 40 #[.slice (some ⟨g, 0, none⟩) n cap, .int .i64 1] w fun e w' => e = .returned (.int .i64 (1 + n * 2)) ∧ Own w' g 31 2 n cap (seqI 1 (n * 2)) ∧ grew w w' g := by
  have hx : xs.length = n * 2 := by have := hp.len; omega
  have h0 := Lib.hid hp
  clear hp
  go_enter Try.func40, Try.ntmps40
  go_wp2_with fail
  go_loopw [1, 5] (fun m i wr => ∃ k : Nat, k ≤ n ∧ i = .int .i64 k ∧ m = .int .i64 (1 + k * 2) ∧ Own wr g 31 2 n cap (mkS 1 (k * 2) xs) ∧ grew w wr g) (fun _ i _ => n - (intOf i).toNat)
  case atStart => exact ⟨0, Nat.zero_le _, rfl, by simp, by rw [Nat.zero_mul, mkS_zero]; exact h0.out, grew.refl _ _⟩
  case round =>
    obtain ⟨k, hk, rfl, rfl, how, hbr⟩ := hrel
    have HO := Lib.hid how
    have HG := Lib.hid hbr
    by_cases hlt : k < n
    · have hf0 := how.frozen (k * 2)
      have hf1 := how.frozen (k * 2 + 1)
      have hlo := how.lt
      have hml := mkS_len (s := 1) (k := k * 2) (xs := xs) (by omega)
      have hc0 := how.cells (i := k * 2) (z := ((mkS 1 (k * 2) xs)[k * 2]?).getD 0) (by rw [List.getElem?_eq_getElem (by omega)]; rfl)
      have hc1 := how.cells (i := k * 2 + 1) (z := ((mkS 1 (k * 2) xs)[k * 2 + 1]?).getD 0) (by rw [List.getElem?_eq_getElem (by omega)]; rfl)
      clear how hbr h0
      go_wp2_with fail
      go_roundw
      case rel =>
        refine ⟨k + 1, by omega, by go_num, by go_num, ?_, (HG.out.set _ _).set _ _⟩
        have h1 := HO.out.set (k * 2) (1 + (k * 2 : Nat)) (by omega)
        rw [mkS_set (by omega)] at h1
        have h2 := h1.set (k * 2 + 1) (1 + ((k * 2 + 1 : Nat) : Int)) (by rw [mkS_len (by omega)]; omega)
        rw [mkS_set (by omega)] at h2
        rw [show (k + 1) * 2 = k * 2 + 1 + 1 by omega]
        have e1 : ((1 : Int) + ((k * 2 : Nat) : Int)) = 1 + (k : Int) * 2 := by omega
        have e2 : ((1 : Int) + ((k * 2 + 1 : Nat) : Int)) = 1 + (k : Int) * 2 + 1 := by omega
        rw [e1, e2] at h2
        exact h2
      case measure => simp [intOf]; omega
    · have e : k = n := by omega
      subst e
      clear how hbr h0
      go_wp2_with fail
      go_ret
      exact ⟨rfl, by have := HO.out; rw [← hx, mkS_all] at this; rw [← hx]; exact this, HG.out⟩
set_option maxHeartbeats 2000000 in
theorem heldPts (n c : Nat) (p : Option Addr) (w : World) (hp : Ints w p (seqI 1 (n * 2))) (hl : n ≤ 1048576) :
    Calls Try.prog 41 #[.slice p n c, .int .i64 1] w fun e w' => e = .returned (.int .i64 (1 + n * 2)) ∧ w = w' := by
  have h0 := Lib.hid hp
  clear hp
  go_enter Try.func41, Try.ntmps41
  go_wp2_with fail
  go_loopw [1, 5] (fun m i wr => ∃ k : Nat, k ≤ n ∧ i = .int .i64 k ∧ m = .int .i64 (1 + k * 2) ∧ w = wr) (fun _ i _ => n - (intOf i).toNat)
  case atStart => exact ⟨0, Nat.zero_le _, rfl, by simp, rfl⟩
  case round =>
    obtain ⟨k, hk, rfl, rfl, rfl⟩ := hrel
    by_cases hlt : k < n
    · obtain ⟨B, o, z, rfl, hz, hB, hcx⟩ := h0.out.at (i := k * 2) (by rw [seqI_len]; omega)
      rw [seqI_at (by omega)] at hz
      cases hz
      obtain ⟨B', o', z', e', hz', hB', hcy⟩ := h0.out.at (i := k * 2 + 1) (by rw [seqI_len]; omega)
      simp at e'
      obtain ⟨rfl, rfl⟩ := e'
      rw [seqI_at (by omega)] at hz'
      cases hz'
      rw [← Nat.add_assoc] at hcy
      rw [show (1 : Int) + ((k * 2 : Nat) : Int) = 1 + (k : Int) * 2 by omega] at hcx
      rw [show (1 : Int) + ((k * 2 + 1 : Nat) : Int) = 1 + (k : Int) * 2 + 1 by omega] at hcy
      go_wp2_with fail
      go_roundw
      case rel => exact ⟨k + 1, by omega, by go_num, by go_num, by first | trivial | rfl⟩
      case measure => simp [intOf]; omega
    · have e : k = n := by omega
      subst e
      go_wp2_with fail
      go_ret
      exact ⟨rfl, rfl⟩
theorem markPts_nil (p : Option Addr) (c : Nat) (w : World) :
    Calls Try.prog 40 #[.slice p 0 c, .int .i64 1] w fun e w' => e = .returned (.int .i64 1) ∧ w = w' := by
  go_enter Try.func40, Try.ntmps40
  go_wp2_with fail
  go_loopw [1, 5] (fun m i wr => i = .int .i64 0 ∧ m = .int .i64 1 ∧ w = wr) (fun _ _ _ => 0)
  case atStart => exact ⟨rfl, rfl, rfl⟩
  case round =>
    obtain ⟨rfl, rfl, rfl⟩ := hrel
    go_wp2_with fail
    go_ret
    exact ⟨rfl, rfl⟩
theorem heldPts_nil (p : Option Addr) (c : Nat) (w : World) :
    Calls Try.prog 41 #[.slice p 0 c, .int .i64 1] w fun e w' => e = .returned (.int .i64 1) ∧ w = w' := by
  have := heldPts 0 c p w (.inl (by simp [seqI])) (by omega)
  simpa using this
end Go.Proofs.Ythecapioagogbaa
