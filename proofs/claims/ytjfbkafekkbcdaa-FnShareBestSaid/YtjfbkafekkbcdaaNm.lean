/-
  How the laws copy runs and integers, mark what is theirs and look whether it holds.
-/
import Derived.Test.YtjfbkafekkbcdaaNl
namespace Go.Proofs.Ytjfbkafekkbcdaa
open Go.RowKit
set_option linter.unusedVariables false

theorem made_runs (w : World) (n : Nat) (hn : n ≤ 1048576) : (Instr.makeSlice 39 (.int .i64 (n : Int)) (.int .i64 (n : Int))).run Try.prog w = .ok (.slice (some ⟨w.heap.size, 0, none⟩) n n) (w.alloc (.cells (madeCells (Array.replicate 4 (.int .i64 0)) (n * 4)) 41)) := by
  obtain ⟨i, hi, hzz⟩ := Option.map_eq_some_iff.1 info_run
  simp only [Prod.mk.injEq] at hzz
  obtain ⟨hz, hs, hb⟩ := hzz
  have := run_make (P := Try.prog) w 39 41 i _ Try.underlying39 hi hz .i64 .i64 n n (by omega) (Int.le_refl _) (by rw [hb]; omega) (by omega)
  simp only [Int.toNat_natCast, hs] at this
  exact this
theorem made_ints (w : World) (n : Nat) (hn : n ≤ 1048576) : (Instr.makeSlice 23 (.int .i64 (n : Int)) (.int .i64 (n : Int))).run Try.prog w = .ok (.slice (some ⟨w.heap.size, 0, none⟩) n n) (w.alloc (.cells (madeCells (Array.replicate 1 (.int .i64 0)) (n * 1)) 3)) := by
  obtain ⟨i, hi, hzz⟩ := Option.map_eq_some_iff.1 info_int
  simp only [Prod.mk.injEq] at hzz
  obtain ⟨hz, hs, hb⟩ := hzz
  have := run_make (P := Try.prog) w 23 3 i _ Try.underlying23 hi hz .i64 .i64 n n (by omega) (Int.le_refl _) (by rw [hb]; omega) (by omega)
  simp only [Int.toNat_natCast, hs] at this
  exact this

set_option maxHeartbeats 1000000 in
theorem toInts (p : Option Addr) (c : Nat) (zs : List Int) (w : World) (hp : Ints w p zs) (hl : zs.length ≤ 1048576) :
    Calls Try.prog 33 #[.slice p zs.length c] w fun e w' => e = .returned (.slice (some ⟨w.heap.size, 0, none⟩) zs.length zs.length) ∧ Own w' w.heap.size 3 1 zs.length zs.length zs ∧ Below w.heap.size w w' := by
  have H := Lib.hid hp
  have hm := fun w => made_ints w zs.length hl
  have h0 : Own (w.alloc (.cells (madeCells (Array.replicate 1 (.int .i64 0)) (zs.length * 1)) 3)) w.heap.size 3 1 zs.length zs.length (fillI 0 zs) := by
    have := Own.made w 3 zs.length 1 (by decide) (by unfold maxLen; omega)
    rw [fillI_zero]; rw [Nat.mul_one] at this ⊢; exact this
  have H0 := Lib.hid h0
  clear hp h0
  go_enter Try.func33, Try.ntmps33
  go_wp2_with fail
  clear hm
  go_loopw [4] (fun i wr => ∃ k : Nat, k ≤ zs.length ∧ i = .int .i64 k ∧ Own wr w.heap.size 3 1 zs.length zs.length (fillI k zs) ∧ Below w.heap.size w wr) (fun i _ => zs.length - (intOf i).toNat)
  case atStart => exact ⟨0, Nat.zero_le _, rfl, by simpa using H0.out, (by repeat (first | assumption | exact Below.refl _ _ | (refine below_chain ?_ (by assumption) (by first | omega | (simp <;> omega) | simp)) | (refine Below.alloc ?_ (by first | omega | (simp <;> omega) | simp) _) | (apply below_drewN) | (apply below_drew) | (refine Below.setCell ?_ (by first | omega | (simp <;> omega) | simp) _)))⟩
  case round =>
    clear H0
    obtain ⟨k, hk, rfl, how, hbr⟩ := hrel
    have hbs := hbr.size
    have HO := Lib.hid how
    by_cases hlt : k < zs.length
    · obtain ⟨B, o, r, rfl, hr, hB, e0⟩ := (H.out.below hbr).at hlt
      have hf := how.frozen k
      have hlo := how.lt
      have hcx := how.cells (i := k) (z := ((fillI k zs)[k]?).getD 0) (by have := fillI_len k zs hk; rw [List.getElem?_eq_getElem (by omega)]; rfl)
      have HR := Lib.hid hr
      clear hr how
      go_wp2_with fail
      go_roundw
      case rel => exact ⟨k + 1, by omega, by go_num, by rw [← fillI_set HR.out]; exact HO.out.set k r (by rw [fillI_len _ _ hk]; exact hlt), (by repeat (first | assumption | exact Below.refl _ _ | (refine below_chain ?_ (by assumption) (by first | omega | (simp <;> omega) | simp)) | (refine Below.alloc ?_ (by first | omega | (simp <;> omega) | simp) _) | (apply below_drewN) | (apply below_drew) | (refine Below.setCell ?_ (by first | omega | (simp <;> omega) | simp) _)))⟩
      case measure => simp [intOf]; omega
    · have e : k = zs.length := by omega
      subst e
      clear how
      go_wp2_with fail
      go_ret
      exact ⟨rfl, by have := HO.out; rw [fillI_all] at this; exact this, (by repeat (first | assumption | exact Below.refl _ _ | (refine below_chain ?_ (by assumption) (by first | omega | (simp <;> omega) | simp)) | (refine Below.alloc ?_ (by first | omega | (simp <;> omega) | simp) _) | (apply below_drewN) | (apply below_drew) | (refine Below.setCell ?_ (by first | omega | (simp <;> omega) | simp) _)))⟩

/-- the first j of the cells marked from 1 on -/
def mk (j : Nat) (xs : List Int) : List Int := (List.range j).map (fun (i : Nat) => 1 + (i : Int)) ++ xs.drop j
theorem mk_zero (xs : List Int) : mk 0 xs = xs := by simp [mk]
theorem mk_len {j : Nat} {xs : List Int} (h : j ≤ xs.length) : (mk j xs).length = xs.length := by simp [mk]; omega
theorem mk_set {j : Nat} {xs : List Int} (h : j < xs.length) : (mk j xs).set j (1 + (j : Int)) = mk (j + 1) xs := by
  unfold mk
  rw [List.set_append_right _ _ (by simp), List.range_succ, List.map_append, List.append_assoc]
  congr 1
  rw [List.drop_eq_getElem_cons h, show j - ((List.range j).map (fun (i : Nat) => 1 + (i : Int))).length = 0 by simp]
  rfl
theorem mk_at {j n : Nat} {xs : List Int} (h : xs.length = n) (hj : j < n) : (mk n xs)[j]? = some (1 + (j : Int)) := by
  unfold mk
  rw [List.getElem?_append_left (by simpa using hj)]
  simp [hj]
def grew (w w' : World) (g : Nat) : Prop := w.grownBy w' (some g) ∧ w'.heap.size = w.heap.size
theorem grew.refl (w : World) (g : Nat) : grew w w g := ⟨⟨rfl, rfl, rfl, Nat.le_refl _, fun _ _ _ => rfl⟩, rfl⟩
theorem grew.set {w w' : World} {g : Nat} (h : grew w w' g) (o : Nat) (v : Value) : grew w (w'.setCell ⟨g, o, none⟩ v) g :=
  ⟨⟨h.1.os, h.1.tape, h.1.output, by simpa [World.setCell] using h.1.size, fun i hi hne => (Below.heap_setCell w' ⟨g, o, none⟩ v i (by rintro rfl; exact hne rfl)).trans (h.1.block i hi hne)⟩, by simpa [World.setCell] using h.2⟩

set_option maxHeartbeats 1000000 in
theorem markInts (g n cap : Nat) (xs : List Int) (w : World) (hp : Own w g 3 1 n cap xs) (hl : n ≤ 1048576) :
    Calls Try.prog 35 #[.slice (some ⟨g, 0, none⟩) n cap, .int .i64 1] w fun e w' => e = .returned (.int .i64 (1 + n)) ∧ Own w' g 3 1 n cap (mk n xs) ∧ grew w w' g := by
  have hx : xs.length = n := by have := hp.len; omega
  have h0 := Lib.hid hp
  clear hp
  go_enter Try.func35, Try.ntmps35
  go_wp2_with fail
  go_loopw [1, 5] (fun m i wr => ∃ k : Nat, k ≤ n ∧ i = .int .i64 k ∧ m = .int .i64 (1 + k) ∧ Own wr g 3 1 n cap (mk k xs) ∧ grew w wr g) (fun _ i _ => n - (intOf i).toNat)
  case atStart => exact ⟨0, Nat.zero_le _, rfl, rfl, by rw [mk_zero]; exact h0.out, grew.refl _ _⟩
  case round =>
    obtain ⟨k, hk, rfl, rfl, how, hbr⟩ := hrel
    have HO := Lib.hid how
    have HG := Lib.hid hbr
    by_cases hlt : k < n
    · have hf := how.frozen k
      have hlo := how.lt
      have hcx := how.cells (i := k) (z := ((mk k xs)[k]?).getD 0) (by have := mk_len (j := k) (xs := xs) (by omega); rw [List.getElem?_eq_getElem (by omega)]; rfl)
      clear how hbr h0
      go_wp2_with fail
      go_roundw
      case rel => exact ⟨k + 1, by omega, by go_num, by go_num, by rw [← mk_set (by omega)]; exact HO.out.set k _ (by rw [mk_len (by omega)]; omega), HG.out.set _ _⟩
      case measure => simp [intOf]; omega
    · have e : k = n := by omega
      subst e
      clear how hbr h0
      go_wp2_with fail
      go_ret
      exact ⟨rfl, HO.out, HG.out⟩
theorem markInts_nil (p : Option Addr) (c : Nat) (w : World) :
    Calls Try.prog 35 #[.slice p 0 c, .int .i64 1] w fun e w' => e = .returned (.int .i64 1) ∧ w = w' := by
  go_enter Try.func35, Try.ntmps35
  go_wp2_with fail
  go_loopw [1, 5] (fun m i wr => m = .int .i64 1 ∧ i = .int .i64 0 ∧ w = wr) (fun _ i _ => 0)
  case atStart => exact ⟨rfl, rfl, rfl⟩
  case round =>
    obtain ⟨rfl, rfl, rfl⟩ := hrel
    go_wp2_with fail
    go_ret
    exact ⟨rfl, by first | trivial | rfl⟩
set_option maxHeartbeats 1000000 in
theorem heldInts (g n cap : Nat) (xs : List Int) (w : World) (hp : Own w g 3 1 n cap (mk n xs)) (hx : xs.length = n) (hl : n ≤ 1048576) :
    Calls Try.prog 36 #[.slice (some ⟨g, 0, none⟩) n cap, .int .i64 1] w fun e w' => e = .returned (.int .i64 (1 + n)) ∧ w = w' := by
  have h0 := Lib.hid hp
  clear hp
  go_enter Try.func36, Try.ntmps36
  go_wp2_with fail
  go_loopw [1, 5] (fun m i wr => ∃ k : Nat, k ≤ n ∧ i = .int .i64 k ∧ m = .int .i64 (1 + k) ∧ w = wr) (fun _ i _ => n - (intOf i).toNat)
  case atStart => exact ⟨0, Nat.zero_le _, rfl, rfl, rfl⟩
  case round =>
    obtain ⟨k, hk, rfl, rfl, rfl⟩ := hrel
    by_cases hlt : k < n
    · have hcx := h0.out.cells (i := k) (z := 1 + (k : Int)) (mk_at hx hlt)
      go_wp2_with fail
      go_roundw
      case rel => exact ⟨k + 1, by omega, by go_num, by go_num, trivial⟩
      case measure => simp [intOf]; omega
    · have e : k = n := by omega
      subst e
      go_wp2_with fail
      go_ret
      exact ⟨rfl, by first | trivial | rfl⟩
theorem heldInts_nil (p : Option Addr) (c : Nat) (w : World) :
    Calls Try.prog 36 #[.slice p 0 c, .int .i64 1] w fun e w' => e = .returned (.int .i64 1) ∧ w = w' := by
  go_enter Try.func36, Try.ntmps36
  go_wp2_with fail
  go_loopw [1, 5] (fun m i wr => m = .int .i64 1 ∧ i = .int .i64 0 ∧ w = wr) (fun _ i _ => 0)
  case atStart => exact ⟨rfl, rfl, rfl⟩
  case round =>
    obtain ⟨rfl, rfl, rfl⟩ := hrel
    go_wp2_with fail
    go_ret
    exact ⟨rfl, by first | trivial | rfl⟩

theorem mk4_at {k n : Nat} {xs : List Int} (h : xs.length = n * 4) (hk : k < n) : (mk (n * 4) xs)[k * 4]? = some (1 + (k : Int) * 4) ∧ (mk (n * 4) xs)[k * 4 + 1]? = some (1 + (k : Int) * 4 + 1) ∧ (mk (n * 4) xs)[k * 4 + 2]? = some (1 + (k : Int) * 4 + 1 + 1) ∧ (mk (n * 4) xs)[k * 4 + 3]? = some (1 + (k : Int) * 4 + 1 + 1 + 1) := by
  refine ⟨?_, ?_, ?_, ?_⟩ <;> rw [mk_at h (by omega)] <;> congr 1 <;> omega
end Go.Proofs.Ytjfbkafekkbcdaa
