/-
  How the laws copy runs and integers, mark what is theirs and look whether it holds.
-/
import Derived.Test.YtimghdffmdcheaaNl
namespace Go.Proofs.Ytimghdffmdcheaa
open Go.RowKit
set_option linter.unusedVariables false

set_option maxHeartbeats 1000000 in
theorem eqRuns (p q : Option Addr) (c d : Nat) (rs : List Rn) (w : World) (hp : Runs w p rs) (hq : Runs w q rs) (hl : rs.length ≤ 4000000000000000000) :
    Calls Try.prog 43 #[.slice p rs.length c, .slice q rs.length d] w fun e w' => e = .returned (.bool true) ∧ Below w.heap.size w w' := by
  have H := Lib.hid (And.intro hp hq)
  clear hp hq
  go_enter Try.func43, Try.ntmps43
  go_wp2_with fail
  go_loopw [5] (fun i wr => ∃ k : Nat, k ≤ rs.length ∧ i = .int .i64 k ∧ Below w.heap.size w wr) (fun i _ => rs.length - (intOf i).toNat)
  case atStart => exact ⟨0, Nat.zero_le _, rfl, Below.refl _ _⟩
  case round =>
    obtain ⟨k, hk, rfl, hbr⟩ := hrel
    have hbs := hbr.size
    by_cases hlt : k < rs.length
    · obtain ⟨B, o, r, rfl, hr, hB, e0, e1, e2, e3⟩ := (H.out.1.below hbr).at hlt
      obtain ⟨B', o', r', rfl, hr', hB', e4, e5, e6, e7⟩ := (H.out.2.below hbr).at hlt
      obtain rfl : r = r' := by rw [hr] at hr'; cases hr'; rfl
      clear hr hr'
      go_wp2_with fail
      (refine wp_region_grows (by kernel_rfl) (by kernel_rfl) ?_; intro W_wg hWc_wg hWs_wg hWe_wg; (repeat (go_big_quiet_step ((go_at_call 79; with_reducible exact Ext.call (eqRun_is _ _ _ _ _))))); with_reducible refine wpQuiet_nil ?_; clear hWe_wg hWs_wg hWc_wg W_wg; intro wg hb_wg; obtain ⟨hc_wg, hf_wg⟩ := bcell hb_wg; (try simp only [World.size_drew, World.cell?_drew, World.frozen?_drew, World.heap_drewN, World.cell?_drewN, World.frozen?_drewN] at hc_wg hf_wg); have hs_wg := hb_wg.size; (try simp at hs_wg))
      go_wp2_with fail
      go_roundw
      case rel => exact ⟨k + 1, by omega, by go_num, (by repeat (first | assumption | exact Below.refl _ _ | (refine below_chain ?_ (by assumption) (by first | omega | (simp <;> omega) | simp)) | (refine Below.alloc ?_ (by first | omega | (simp <;> omega) | simp) _) | (apply below_drewN) | (apply below_drew) | (refine Below.setCell ?_ (by first | omega | (simp <;> omega) | simp) _)))⟩
      case measure => simp [intOf]; omega
    · have e : k = rs.length := by omega
      subst e
      go_wp2_with fail
      go_ret
      exact ⟨rfl, (by repeat (first | assumption | exact Below.refl _ _ | (refine below_chain ?_ (by assumption) (by first | omega | (simp <;> omega) | simp)) | (refine Below.alloc ?_ (by first | omega | (simp <;> omega) | simp) _) | (apply below_drewN) | (apply below_drew) | (refine Below.setCell ?_ (by first | omega | (simp <;> omega) | simp) _)))⟩

theorem made_runs (w : World) (n : Nat) (hn : n ≤ 1048576) : (Instr.makeSlice 23 (.int .i64 (n : Int)) (.int .i64 (n : Int))).run Try.prog w = .ok (.slice (some ⟨w.heap.size, 0, none⟩) n n) (w.alloc (.cells (madeCells (Array.replicate 4 (.int .i64 0)) (n * 4)) 42)) := by
  obtain ⟨i, hi, hzz⟩ := Option.map_eq_some_iff.1 info_run
  simp only [Prod.mk.injEq] at hzz
  obtain ⟨hz, hs, hb⟩ := hzz
  have := run_make (P := Try.prog) w 23 42 i _ Try.underlying23 hi hz .i64 .i64 n n (by omega) (Int.le_refl _) (by rw [hb]; omega) (by omega)
  simp only [Int.toNat_natCast, hs] at this
  exact this
theorem made_ints (w : World) (n : Nat) (hn : n ≤ 1048576) : (Instr.makeSlice 24 (.int .i64 (n : Int)) (.int .i64 (n : Int))).run Try.prog w = .ok (.slice (some ⟨w.heap.size, 0, none⟩) n n) (w.alloc (.cells (madeCells (Array.replicate 1 (.int .i64 0)) (n * 1)) 3)) := by
  obtain ⟨i, hi, hzz⟩ := Option.map_eq_some_iff.1 info_int
  simp only [Prod.mk.injEq] at hzz
  obtain ⟨hz, hs, hb⟩ := hzz
  have := run_make (P := Try.prog) w 24 3 i _ Try.underlying24 hi hz .i64 .i64 n n (by omega) (Int.le_refl _) (by rw [hb]; omega) (by omega)
  simp only [Int.toNat_natCast, hs] at this
  exact this

set_option maxHeartbeats 1000000 in
theorem toInts (p : Option Addr) (c : Nat) (zs : List Int) (w : World) (hp : Ints w p zs) (hl : zs.length ≤ 1048576) :
    Calls Try.prog 42 #[.slice p zs.length c] w fun e w' => e = .returned (.slice (some ⟨w.heap.size, 0, none⟩) zs.length zs.length) ∧ Own w' w.heap.size 3 1 zs.length zs.length zs ∧ Below w.heap.size w w' := by
  have H := Lib.hid hp
  have hm := fun w => made_ints w zs.length hl
  have h0 : Own (w.alloc (.cells (madeCells (Array.replicate 1 (.int .i64 0)) (zs.length * 1)) 3)) w.heap.size 3 1 zs.length zs.length (fillI 0 zs) := by
    have := Own.made w 3 zs.length 1 (by decide) (by unfold maxLen; omega)
    rw [fillI_zero]; rw [Nat.mul_one] at this ⊢; exact this
  have H0 := Lib.hid h0
  clear hp h0
  go_enter Try.func42, Try.ntmps42
  go_wp2_with fail
  clear hm
  go_loopw [4] (fun i wr => ∃ k : Nat, k ≤ zs.length ∧ i = .int .i64 k ∧ Own wr w.heap.size 3 1 zs.length zs.length (fillI k zs) ∧ Below w.heap.size w wr) (fun i _ => zs.length - (intOf i).toNat)
  case atStart => exact ⟨0, Nat.zero_le _, rfl, by simpa using H0.out, (by repeat (first | assumption | exact Below.refl _ _ | (refine below_chain ?_ (by assumption) (by first | omega | (simp <;> omega) | simp)) | (refine Below.alloc ?_ (by first | omega | (simp <;> omega) | simp) _) | (apply below_drewN) | (apply below_drew) | (refine Below.setCell ?_ (by first | omega | (simp <;> omega) | simp) _)))⟩
  case round =>
    clear H0
    obtain ⟨k, hk, rfl, how, hbr⟩ := hrel
    have hbs := hbr.size
    have HO := Lib.hid how
    by_cases hlt : k < zs.length
    · obtain ⟨B, o, r, rfl, hr, hB, e0⟩ := (H.out.below hbr).at hlt
      have hf := how.frozen k
      have hlo := how.lt
      have hcx := how.cells (i := k) (z := ((fillI k zs)[k]?).getD 0) (by have := fillI_len k zs hk; rw [List.getElem?_eq_getElem (by omega)]; rfl)
      have HR := Lib.hid hr
      clear hr how
      go_wp2_with fail
      go_roundw
      case rel => exact ⟨k + 1, by omega, by go_num, by rw [← fillI_set HR.out]; exact HO.out.set k r (by rw [fillI_len _ _ hk]; exact hlt), (by repeat (first | assumption | exact Below.refl _ _ | (refine below_chain ?_ (by assumption) (by first | omega | (simp <;> omega) | simp)) | (refine Below.alloc ?_ (by first | omega | (simp <;> omega) | simp) _) | (apply below_drewN) | (apply below_drew) | (refine Below.setCell ?_ (by first | omega | (simp <;> omega) | simp) _)))⟩
      case measure => simp [intOf]; omega
    · have e : k = zs.length := by omega
      subst e
      clear how
      go_wp2_with fail
      go_ret
      exact ⟨rfl, by have := HO.out; rw [fillI_all] at this; exact this, (by repeat (first | assumption | exact Below.refl _ _ | (refine below_chain ?_ (by assumption) (by first | omega | (simp <;> omega) | simp)) | (refine Below.alloc ?_ (by first | omega | (simp <;> omega) | simp) _) | (apply below_drewN) | (apply below_drew) | (refine Below.setCell ?_ (by first | omega | (simp <;> omega) | simp) _)))⟩

set_option maxHeartbeats 2000000 in
theorem toRuns (p : Option Addr) (c : Nat) (rs : List Rn) (w : World) (hp : Runs w p rs) (hl : rs.length ≤ 1048576) :
    Calls Try.prog 41 #[.slice p rs.length c] w fun e w' => e = .returned (.slice (some ⟨w.heap.size, 0, none⟩) rs.length rs.length) ∧ Own w' w.heap.size 42 4 rs.length rs.length (flat rs) ∧ Below w.heap.size w w' := by
  have H := Lib.hid hp
  have hm := fun w => made_runs w rs.length hl
  have h0 : Own (w.alloc (.cells (madeCells (Array.replicate 4 (.int .i64 0)) (rs.length * 4)) 42)) w.heap.size 42 4 rs.length rs.length (flat (fill 0 rs)) := by
    rw [fill_zero, flat_zeros]
    exact Own.made w 42 rs.length 4 (by decide) (by unfold maxLen; omega)
  have H0 := Lib.hid h0
  clear hp h0
  go_enter Try.func41, Try.ntmps41
  go_wp2_with fail
  clear hm
  go_loopw [4] (fun i wr => ∃ k : Nat, k ≤ rs.length ∧ i = .int .i64 k ∧ Own wr w.heap.size 42 4 rs.length rs.length (flat (fill k rs)) ∧ Below w.heap.size w wr) (fun i _ => rs.length - (intOf i).toNat)
  case atStart => exact ⟨0, Nat.zero_le _, rfl, by simpa using H0.out, (by repeat (first | assumption | exact Below.refl _ _ | (refine below_chain ?_ (by assumption) (by first | omega | (simp <;> omega) | simp)) | (refine Below.alloc ?_ (by first | omega | (simp <;> omega) | simp) _) | (apply below_drewN) | (apply below_drew) | (refine Below.setCell ?_ (by first | omega | (simp <;> omega) | simp) _)))⟩
  case round =>
    clear H0
    obtain ⟨k, hk, rfl, how, hbr⟩ := hrel
    have hbs := hbr.size
    have HO := Lib.hid how
    by_cases hlt : k < rs.length
    · obtain ⟨B, o, r, rfl, hr, hB, e0, e1, e2, e3⟩ := (H.out.below hbr).at hlt
      have hf0 := how.frozen (k * 4)
      have hf1 := how.frozen (k * 4 + 1)
      have hf2 := how.frozen (k * 4 + 2)
      have hf3 := how.frozen (k * 4 + 3)
      have hlo := how.lt
      obtain ⟨r', hr'⟩ : ∃ r', (fill k rs)[k]? = some r' := ⟨_, List.getElem?_eq_getElem (by rw [fill_len _ _ hk]; exact hlt)⟩
      obtain ⟨x0, x1, x2, x3⟩ := how.runAt hr'
      have HR := Lib.hid hr
      clear hr how hr'
      go_wp2_with ((go_at_call 78; (with_reducible refine (toRun_is _ _ _ _ _).mono ?_); rintro e wn ⟨rfl, hbn⟩; obtain ⟨hcn, hfn⟩ := bcell hbn; (try simp only [World.size_drew, World.cell?_drew, World.frozen?_drew, World.heap_drewN, World.cell?_drewN, World.frozen?_drewN] at hcn hfn); have hsz := hbn.size; (try simp at hsz); (try have hsl := Nat.lt_of_succ_le hsz); (try have hz0 : w.heap.size < wn.heap.size := (by have := hbn.size; (try simp at this); omega))))
      go_roundw
      case rel => exact ⟨k + 1, by omega, by go_num, by rw [← fill_set HR.out]; exact (HO.out.below hbn).set4 (by rw [fill_len _ _ hk]; exact hlt) r, (by repeat (first | assumption | exact Below.refl _ _ | (refine below_chain ?_ (by assumption) (by first | omega | (simp <;> omega) | simp)) | (refine Below.alloc ?_ (by first | omega | (simp <;> omega) | simp) _) | (apply below_drewN) | (apply below_drew) | (refine Below.setCell ?_ (by first | omega | (simp <;> omega) | simp) _)))⟩
      case measure => simp [intOf]; omega
    · have e : k = rs.length := by omega
      subst e
      clear how
      go_wp2_with fail
      go_ret
      exact ⟨rfl, by have := HO.out; rw [fill_all] at this; exact this, (by repeat (first | assumption | exact Below.refl _ _ | (refine below_chain ?_ (by assumption) (by first | omega | (simp <;> omega) | simp)) | (refine Below.alloc ?_ (by first | omega | (simp <;> omega) | simp) _) | (apply below_drewN) | (apply below_drew) | (refine Below.setCell ?_ (by first | omega | (simp <;> omega) | simp) _)))⟩

/-- the first j of the cells marked from 1 on -/
def mk (j : Nat) (xs : List Int) : List Int := (List.range j).map (fun (i : Nat) => 1 + (i : Int)) ++ xs.drop j
theorem mk_zero (xs : List Int) : mk 0 xs = xs := by simp [mk]
theorem mk_len {j : Nat} {xs : List Int} (h : j ≤ xs.length) : (mk j xs).length = xs.length := by simp [mk]; omega
theorem mk_set {j : Nat} {xs : List Int} (h : j < xs.length) : (mk j xs).set j (1 + (j : Int)) = mk (j + 1) xs := by
  unfold mk
  rw [List.set_append_right _ _ (by simp), List.range_succ, List.map_append, List.append_assoc]
  congr 1
  rw [List.drop_eq_getElem_cons h, show j - ((List.range j).map (fun (i : Nat) => 1 + (i : Int))).length = 0 by simp]
  rfl
theorem mk_at {j n : Nat} {xs : List Int} (h : xs.length = n) (hj : j < n) : (mk n xs)[j]? = some (1 + (j : Int)) := by
  unfold mk
  rw [List.getElem?_append_left (by simpa using hj)]
  simp [hj]
def grew (w w' : World) (g : Nat) : Prop := w.grownBy w' (some g) ∧ w'.heap.size = w.heap.size
theorem grew.refl (w : World) (g : Nat) : grew w w g := ⟨⟨rfl, rfl, rfl, Nat.le_refl _, fun _ _ _ => rfl⟩, rfl⟩
theorem grew.set {w w' : World} {g : Nat} (h : grew w w' g) (o : Nat) (v : Value) : grew w (w'.setCell ⟨g, o, none⟩ v) g :=
  ⟨⟨h.1.os, h.1.tape, h.1.output, by simpa [World.setCell] using h.1.size, fun i hi hne => (Below.heap_setCell w' ⟨g, o, none⟩ v i (by rintro rfl; exact hne rfl)).trans (h.1.block i hi hne)⟩, by simpa [World.setCell] using h.2⟩

set_option maxHeartbeats 1000000 in
theorem markInts (g n cap : Nat) (xs : List Int) (w : World) (hp : Own w g 3 1 n cap xs) (hl : n ≤ 1048576) :
    Calls Try.prog 47 #[.slice (some ⟨g, 0, none⟩) n cap, .int .i64 1] w fun e w' => e = .returned (.int .i64 (1 + n)) ∧ Own w' g 3 1 n cap (mk n xs) ∧ grew w w' g := by
  have hx : xs.length = n := by have := hp.len; omega
  have h0 := Lib.hid hp
  clear hp
  go_enter Try.func47, Try.ntmps47
  go_wp2_with fail
  go_loopw [1, 5] (fun m i wr => ∃ k : Nat, k ≤ n ∧ i = .int .i64 k ∧ m = .int .i64 (1 + k) ∧ Own wr g 3 1 n cap (mk k xs) ∧ grew w wr g) (fun _ i _ => n - (intOf i).toNat)
  case atStart => exact ⟨0, Nat.zero_le _, rfl, rfl, by rw [mk_zero]; exact h0.out, grew.refl _ _⟩
  case round =>
    obtain ⟨k, hk, rfl, rfl, how, hbr⟩ := hrel
    have HO := Lib.hid how
    have HG := Lib.hid hbr
    by_cases hlt : k < n
    · have hf := how.frozen k
      have hlo := how.lt
      have hcx := how.cells (i := k) (z := ((mk k xs)[k]?).getD 0) (by have := mk_len (j := k) (xs := xs) (by omega); rw [List.getElem?_eq_getElem (by omega)]; rfl)
      clear how hbr h0
      go_wp2_with fail
      go_roundw
      case rel => exact ⟨k + 1, by omega, by go_num, by go_num, by rw [← mk_set (by omega)]; exact HO.out.set k _ (by rw [mk_len (by omega)]; omega), HG.out.set _ _⟩
      case measure => simp [intOf]; omega
    · have e : k = n := by omega
      subst e
      clear how hbr h0
      go_wp2_with fail
      go_ret
      exact ⟨rfl, HO.out, HG.out⟩
theorem markInts_nil (p : Option Addr) (c : Nat) (w : World) :
    Calls Try.prog 47 #[.slice p 0 c, .int .i64 1] w fun e w' => e = .returned (.int .i64 1) ∧ w = w' := by
  go_enter Try.func47, Try.ntmps47
  go_wp2_with fail
  go_loopw [1, 5] (fun m i wr => m = .int .i64 1 ∧ i = .int .i64 0 ∧ w = wr) (fun _ i _ => 0)
  case atStart => exact ⟨rfl, rfl, rfl⟩
  case round =>
    obtain ⟨rfl, rfl, rfl⟩ := hrel
    go_wp2_with fail
    go_ret
    exact ⟨rfl, by first | trivial | rfl⟩
set_option maxHeartbeats 1000000 in
theorem heldInts (g n cap : Nat) (xs : List Int) (w : World) (hp : Own w g 3 1 n cap (mk n xs)) (hx : xs.length = n) (hl : n ≤ 1048576) :
    Calls Try.prog 48 #[.slice (some ⟨g, 0, none⟩) n cap, .int .i64 1] w fun e w' => e = .returned (.int .i64 (1 + n)) ∧ w = w' := by
  have h0 := Lib.hid hp
  clear hp
  go_enter Try.func48, Try.ntmps48
  go_wp2_with fail
  go_loopw [1, 5] (fun m i wr => ∃ k : Nat, k ≤ n ∧ i = .int .i64 k ∧ m = .int .i64 (1 + k) ∧ w = wr) (fun _ i _ => n - (intOf i).toNat)
  case atStart => exact ⟨0, Nat.zero_le _, rfl, rfl, rfl⟩
  case round =>
    obtain ⟨k, hk, rfl, rfl, rfl⟩ := hrel
    by_cases hlt : k < n
    · have hcx := h0.out.cells (i := k) (z := 1 + (k : Int)) (mk_at hx hlt)
      go_wp2_with fail
      go_roundw
      case rel => exact ⟨k + 1, by omega, by go_num, by go_num, trivial⟩
      case measure => simp [intOf]; omega
    · have e : k = n := by omega
      subst e
      go_wp2_with fail
      go_ret
      exact ⟨rfl, by first | trivial | rfl⟩
theorem heldInts_nil (p : Option Addr) (c : Nat) (w : World) :
    Calls Try.prog 48 #[.slice p 0 c, .int .i64 1] w fun e w' => e = .returned (.int .i64 1) ∧ w = w' := by
  go_enter Try.func48, Try.ntmps48
  go_wp2_with fail
  go_loopw [1, 5] (fun m i wr => m = .int .i64 1 ∧ i = .int .i64 0 ∧ w = wr) (fun _ i _ => 0)
  case atStart => exact ⟨rfl, rfl, rfl⟩
  case round =>
    obtain ⟨rfl, rfl, rfl⟩ := hrel
    go_wp2_with fail
    go_ret
    exact ⟨rfl, by first | trivial | rfl⟩

theorem mk4_at {k n : Nat} {xs : List Int} (h : xs.length = n * 4) (hk : k < n) : (mk (n * 4) xs)[k * 4]? = some (1 + (k : Int) * 4) ∧ (mk (n * 4) xs)[k * 4 + 1]? = some (1 + (k : Int) * 4 + 1) ∧ (mk (n * 4) xs)[k * 4 + 2]? = some (1 + (k : Int) * 4 + 1 + 1) ∧ (mk (n * 4) xs)[k * 4 + 3]? = some (1 + (k : Int) * 4 + 1 + 1 + 1) := by
  refine ⟨?_, ?_, ?_, ?_⟩ <;> rw [mk_at h (by omega)] <;> congr 1 <;> omega
set_option maxHeartbeats 2000000 in
theorem markRuns (g n cap : Nat) (xs : List Int) (w : World) (hp : Own w g 42 4 n cap xs) (hl : n ≤ 1048576) :
    Calls Try.prog 46 #[.slice (some ⟨g, 0, none⟩) n cap, .int .i64 1] w fun e w' => e = .returned (.int .i64 (1 + n * 4)) ∧ Own w' g 42 4 n cap (mk (n * 4) xs) ∧ grew w w' g := by
  have hx : xs.length = n * 4 := by have := hp.len; omega
  have h0 := Lib.hid hp
  clear hp
  go_enter Try.func46, Try.ntmps46
  go_wp2_with fail
  go_loopw [1, 5] (fun m i wr => ∃ k : Nat, k ≤ n ∧ i = .int .i64 k ∧ m = .int .i64 (1 + (k : Int) * 4) ∧ Own wr g 42 4 n cap (mk (k * 4) xs) ∧ grew w wr g) (fun _ i _ => n - (intOf i).toNat)
  case atStart => exact ⟨0, Nat.zero_le _, rfl, by simp, by rw [Nat.zero_mul, mk_zero]; exact h0.out, grew.refl _ _⟩
  case round =>
    obtain ⟨k, hk, rfl, rfl, how, hbr⟩ := hrel
    have HO := Lib.hid how
    have HG := Lib.hid hbr
    by_cases hlt : k < n
    · have hf0 := how.frozen (k * 4)
      have hf1 := how.frozen (k * 4 + 1)
      have hf2 := how.frozen (k * 4 + 2)
      have hf3 := how.frozen (k * 4 + 3)
      have hlo := how.lt
      have hml := mk_len (j := k * 4) (xs := xs) (by omega)
      have x0 := how.cells (i := k * 4) (z := ((mk (k * 4) xs)[k * 4]?).getD 0) (by rw [List.getElem?_eq_getElem (by omega)]; rfl)
      have x1 := how.cells (i := k * 4 + 1) (z := ((mk (k * 4) xs)[k * 4 + 1]?).getD 0) (by rw [List.getElem?_eq_getElem (by omega)]; rfl)
      have x2 := how.cells (i := k * 4 + 2) (z := ((mk (k * 4) xs)[k * 4 + 2]?).getD 0) (by rw [List.getElem?_eq_getElem (by omega)]; rfl)
      have x3 := how.cells (i := k * 4 + 3) (z := ((mk (k * 4) xs)[k * 4 + 3]?).getD 0) (by rw [List.getElem?_eq_getElem (by omega)]; rfl)
      have s1 := HO.out.set (k * 4) (1 + (k : Int) * 4) (by omega)
      have s2 := s1.set (k * 4 + 1) (1 + (k : Int) * 4 + 1) (by simp; omega)
      have s3 := s2.set (k * 4 + 2) (1 + (k : Int) * 4 + 1 + 1) (by simp; omega)
      have s4 := s3.set (k * 4 + 3) (1 + (k : Int) * 4 + 1 + 1 + 1) (by simp; omega)
      have el : ((((mk (k * 4) xs).set (k * 4) (1 + (k : Int) * 4)).set (k * 4 + 1) (1 + (k : Int) * 4 + 1)).set (k * 4 + 2) (1 + (k : Int) * 4 + 1 + 1)).set (k * 4 + 3) (1 + (k : Int) * 4 + 1 + 1 + 1) = mk ((k + 1) * 4) xs := by
        rw [show (1 + (k : Int) * 4) = 1 + ((k * 4 : Nat) : Int) by omega, mk_set (by omega), show 1 + ((k * 4 : Nat) : Int) + 1 = 1 + ((k * 4 + 1 : Nat) : Int) by omega, mk_set (by omega), show 1 + ((k * 4 + 1 : Nat) : Int) + 1 = 1 + ((k * 4 + 2 : Nat) : Int) by omega, mk_set (by omega), show 1 + ((k * 4 + 2 : Nat) : Int) + 1 = 1 + ((k * 4 + 3 : Nat) : Int) by omega, mk_set (by omega), show (k + 1) * 4 = k * 4 + 3 + 1 by omega]
      rw [el] at s4
      have S4 := Lib.hid s4
      clear how hbr h0 s1 s2 s3 s4 el
      go_wp2_with fail
      go_roundw
      case rel => exact ⟨k + 1, by omega, by go_num, by go_num, S4.out, (((HG.out.set _ _).set _ _).set _ _).set _ _⟩
      case measure => simp [intOf]; omega
    · have e : k = n := by omega
      subst e
      clear how hbr h0
      go_wp2_with fail
      go_ret
      exact ⟨rfl, HO.out, HG.out⟩
theorem markRuns_nil (p : Option Addr) (c : Nat) (w : World) :
    Calls Try.prog 46 #[.slice p 0 c, .int .i64 1] w fun e w' => e = .returned (.int .i64 1) ∧ w = w' := by
  go_enter Try.func46, Try.ntmps46
  go_wp2_with fail
  go_loopw [1, 5] (fun m i wr => m = .int .i64 1 ∧ i = .int .i64 0 ∧ w = wr) (fun _ i _ => 0)
  case atStart => exact ⟨rfl, rfl, rfl⟩
  case round =>
    obtain ⟨rfl, rfl, rfl⟩ := hrel
    go_wp2_with fail
    go_ret
    exact ⟨rfl, by first | trivial | rfl⟩
end Go.Proofs.Ytimghdffmdcheaa
