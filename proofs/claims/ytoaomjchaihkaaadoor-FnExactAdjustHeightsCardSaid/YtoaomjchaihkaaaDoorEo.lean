/-
  How the exact laws compare lists of quotients, mark them and look whether the marks hold.
-/
import Derived.Test.YtoaomjchaihkaaaDoorEl
import Derived.Test.YtoaomjchaihkaaaDoorZf
namespace Go.Proofs.YtoaomjchaihkaaaDoor
open Go.RowKit
set_option linter.unusedVariables false

theorem eqQuo_same (x y : Int) (w : World) :
    Calls Tryd.prog 42 #[.agg #[.int .i64 x, .int .i64 y], .agg #[.int .i64 x, .int .i64 y]] w fun e w' => e = .returned (.bool true) ∧ Below w.heap.size w w' := by
  go_enter Tryd.func42, Tryd.ntmps42
  go_wp2_with fail
  go_ret
  exact ⟨rfl, (by repeat (first | assumption | exact Below.refl _ _ | (refine below_chain ?_ (by assumption) (by first | omega | (simp <;> omega) | simp)) | (refine Below.alloc ?_ (by first | omega | (simp <;> omega) | simp) _) | (apply below_drewN) | (apply below_drew) | (refine Below.setCell ?_ (by first | omega | (simp <;> omega) | simp) _)))⟩
set_option maxHeartbeats 1000000 in
theorem eqQuos (p q : Option Addr) (c d m : Nat) (xs : List (Int × Int)) (w : World) (hp : QRead w p xs) (hq : QRead w q xs) (hm : xs.length = m) (hl : m ≤ 4000000000000000000) :
    Calls Tryd.prog 37 #[.slice p m c, .slice q m d] w fun e w' => e = .returned (.bool true) ∧ Below w.heap.size w w' := by
  have H := Lib.hid (And.intro hp (And.intro hq hm))
  clear hp hq hm
  go_enter Tryd.func37, Tryd.ntmps37
  go_wp2_with fail
  go_loopw [5] (fun i wr => ∃ k : Nat, k ≤ m ∧ i = .int .i64 k ∧ Below w.heap.size w wr) (fun i _ => m - (intOf i).toNat)
  case atStart => exact ⟨0, Nat.zero_le _, rfl, Below.refl _ _⟩
  case round =>
    obtain ⟨k, hk, rfl, hbr⟩ := hrel
    have hbs := hbr.size
    by_cases hlt : k < m
    · obtain ⟨B, o, r, rfl, hr, hB, e0, e1⟩ := (H.out.1.below hbr).at (i := k) (by have := H.out.2.2; omega)
      obtain ⟨B', o', r', rfl, hr', hB', e4, e5⟩ := (H.out.2.1.below hbr).at (i := k) (by have := H.out.2.2; omega)
      obtain rfl : r = r' := by rw [hr] at hr'; cases hr'; rfl
      obtain ⟨r1, r2⟩ := r
      simp only [] at e0 e1 e4 e5
      clear hr hr'
      go_wp2_with fail
      (refine wp_region_grows (by kernel_rfl) (by kernel_rfl) ?_; intro W_wg hWc_wg hWs_wg hWe_wg; (repeat (go_big_quiet_step ((go_at_call 42; with_reducible exact Ext.call (eqQuo_same _ _ _))))); with_reducible refine wpQuiet_nil ?_; clear hWe_wg hWs_wg hWc_wg W_wg; intro wg hb_wg; obtain ⟨hc_wg, hf_wg⟩ := bcell hb_wg; (try simp only [World.size_drew, World.cell?_drew, World.frozen?_drew, World.heap_drewN, World.cell?_drewN, World.frozen?_drewN] at hc_wg hf_wg); have hs_wg := hb_wg.size; (try simp at hs_wg))
      go_wp2_with fail
      go_roundw
      case rel => exact ⟨k + 1, by omega, by go_num, (by repeat (first | assumption | exact Below.refl _ _ | (refine below_chain ?_ (by assumption) (by first | omega | (simp <;> omega) | simp)) | (refine Below.alloc ?_ (by first | omega | (simp <;> omega) | simp) _) | (apply below_drewN) | (apply below_drew) | (refine Below.setCell ?_ (by first | omega | (simp <;> omega) | simp) _)))⟩
      case measure => simp [intOf]; omega
    · have e : k = m := by omega
      subst e
      go_wp2_with fail
      go_ret
      exact ⟨rfl, (by repeat (first | assumption | exact Below.refl _ _ | (refine below_chain ?_ (by assumption) (by first | omega | (simp <;> omega) | simp)) | (refine Below.alloc ?_ (by first | omega | (simp <;> omega) | simp) _) | (apply below_drewN) | (apply below_drew) | (refine Below.setCell ?_ (by first | omega | (simp <;> omega) | simp) _)))⟩
theorem eqQuos_nil (p q : Option Addr) (c d : Nat) (w : World) :
    Calls Tryd.prog 37 #[.slice p 0 c, .slice q 0 d] w fun e w' => e = .returned (.bool true) ∧ Below w.heap.size w w' := eqQuos p q c d 0 [] w (.inl rfl) (.inl rfl) rfl (by omega)
theorem mk2_at {k n : Nat} {xs : List Int} (h : xs.length = n * 2) (hk : k < n) : (mk (n * 2) xs)[k * 2]? = some (1 + (k : Int) * 2) ∧ (mk (n * 2) xs)[k * 2 + 1]? = some (1 + (k : Int) * 2 + 1) := by
  refine ⟨?_, ?_⟩ <;> rw [mk_at h (by omega)] <;> congr 1 <;> omega
set_option maxHeartbeats 2000000 in
theorem markQuos (g n cap : Nat) (xs : List Int) (w : World) (hp : Own w g 31 2 n cap xs) (hl : n ≤ 1048576) :
    Calls Tryd.prog 40 #[.slice (some ⟨g, 0, none⟩) n cap, .int .i64 1] w fun e w' => e = .returned (.int .i64 (1 + n * 2)) ∧ Own w' g 31 2 n cap (mk (n * 2) xs) ∧ grew w w' g := by
  have hx : xs.length = n * 2 := by have := hp.len; omega
  have h0 := Lib.hid hp
  clear hp
  go_enter Tryd.func40, Tryd.ntmps40
  go_wp2_with fail
  go_loopw [1, 5] (fun m i wr => ∃ k : Nat, k ≤ n ∧ i = .int .i64 k ∧ m = .int .i64 (1 + (k : Int) * 2) ∧ Own wr g 31 2 n cap (mk (k * 2) xs) ∧ grew w wr g) (fun _ i _ => n - (intOf i).toNat)
  case atStart => exact ⟨0, Nat.zero_le _, rfl, by simp, by rw [Nat.zero_mul, mk_zero]; exact h0.out, grew.refl _ _⟩
  case round =>
    obtain ⟨k, hk, rfl, rfl, how, hbr⟩ := hrel
    have HO := Lib.hid how
    have HG := Lib.hid hbr
    by_cases hlt : k < n
    · have hf0 := how.frozen (k * 2)
      have hf1 := how.frozen (k * 2 + 1)
      have hlo := how.lt
      have hml := mk_len (j := k * 2) (xs := xs) (by omega)
      have x0 := how.cells (i := k * 2) (z := ((mk (k * 2) xs)[k * 2]?).getD 0) (by rw [List.getElem?_eq_getElem (by omega)]; rfl)
      have x1 := how.cells (i := k * 2 + 1) (z := ((mk (k * 2) xs)[k * 2 + 1]?).getD 0) (by rw [List.getElem?_eq_getElem (by omega)]; rfl)
      have s1 := HO.out.set (k * 2) (1 + (k : Int) * 2) (by omega)
      have s2 := s1.set (k * 2 + 1) (1 + (k : Int) * 2 + 1) (by simp; omega)
      have el : ((mk (k * 2) xs).set (k * 2) (1 + (k : Int) * 2)).set (k * 2 + 1) (1 + (k : Int) * 2 + 1) = mk ((k + 1) * 2) xs := by
        rw [show (1 + (k : Int) * 2) = 1 + ((k * 2 : Nat) : Int) by omega, mk_set (by omega), show 1 + ((k * 2 : Nat) : Int) + 1 = 1 + ((k * 2 + 1 : Nat) : Int) by omega, mk_set (by omega), show (k + 1) * 2 = k * 2 + 1 + 1 by omega]
      rw [el] at s2
      have S2 := Lib.hid s2
      clear how hbr h0 s1 s2 el
      go_wp2_with fail
      go_roundw
      case rel => exact ⟨k + 1, by omega, by go_num, by go_num, S2.out, (HG.out.set _ _).set _ _⟩
      case measure => simp [intOf]; omega
    · have e : k = n := by omega
      subst e
      clear how hbr h0
      go_wp2_with fail
      go_ret
      exact ⟨rfl, HO.out, HG.out⟩
theorem markQuos_nil (p : Option Addr) (c : Nat) (w : World) :
    Calls Tryd.prog 40 #[.slice p 0 c, .int .i64 1] w fun e w' => e = .returned (.int .i64 1) ∧ w = w' := by
  go_enter Tryd.func40, Tryd.ntmps40
  go_wp2_with fail
  go_loopw [1, 5] (fun m i wr => m = .int .i64 1 ∧ i = .int .i64 0 ∧ w = wr) (fun _ i _ => 0)
  case atStart => exact ⟨rfl, rfl, rfl⟩
  case round =>
    obtain ⟨rfl, rfl, rfl⟩ := hrel
    go_wp2_with fail
    go_ret
    exact ⟨rfl, by first | trivial | rfl⟩
set_option maxHeartbeats 2000000 in
theorem heldQuos (g n cap : Nat) (xs : List Int) (w : World) (hp : Own w g 31 2 n cap (mk (n * 2) xs)) (hx : xs.length = n * 2) (hl : n ≤ 1048576) :
    Calls Tryd.prog 41 #[.slice (some ⟨g, 0, none⟩) n cap, .int .i64 1] w fun e w' => e = .returned (.int .i64 (1 + n * 2)) ∧ w = w' := by
  have h0 := Lib.hid hp
  clear hp
  go_enter Tryd.func41, Tryd.ntmps41
  go_wp2_with fail
  go_loopw [1, 5] (fun m i wr => ∃ k : Nat, k ≤ n ∧ i = .int .i64 k ∧ m = .int .i64 (1 + (k : Int) * 2) ∧ w = wr) (fun _ i _ => n - (intOf i).toNat)
  case atStart => exact ⟨0, Nat.zero_le _, rfl, by simp, rfl⟩
  case round =>
    obtain ⟨k, hk, rfl, rfl, rfl⟩ := hrel
    by_cases hlt : k < n
    · obtain ⟨m0, m1⟩ := mk2_at hx hlt
      have x0 := h0.out.cells m0
      have x1 := h0.out.cells m1
      clear m0 m1
      go_wp2_with fail
      go_roundw
      case rel => exact ⟨k + 1, by omega, by go_num, by go_num, trivial⟩
      case measure => simp [intOf]; omega
    · have e : k = n := by omega
      subst e
      go_wp2_with fail
      go_ret
      exact ⟨rfl, by first | trivial | rfl⟩
theorem heldQuos_nil (p : Option Addr) (c : Nat) (w : World) :
    Calls Tryd.prog 41 #[.slice p 0 c, .int .i64 1] w fun e w' => e = .returned (.int .i64 1) ∧ w = w' := by
  go_enter Tryd.func41, Tryd.ntmps41
  go_wp2_with fail
  go_loopw [1, 5] (fun m i wr => m = .int .i64 1 ∧ i = .int .i64 0 ∧ w = wr) (fun _ i _ => 0)
  case atStart => exact ⟨rfl, rfl, rfl⟩
  case round =>
    obtain ⟨rfl, rfl, rfl⟩ := hrel
    go_wp2_with fail
    go_ret
    exact ⟨rfl, by first | trivial | rfl⟩
end Go.Proofs.YtoaomjchaihkaaaDoor
