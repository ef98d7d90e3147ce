/-
  How the laws copy integers, compare them, mark what is theirs and look whether it holds (no runs).
-/
import Derived.Test.YthpfhbogpnhgmaaOwn
import Derived.Test.YthpfhbogpnhgmaaRegB
namespace Go.Proofs.Ythpfhbogpnhgmaa
open Go.RowKit
set_option linter.unusedVariables false

theorem info_int : (Try.prog.info? 3).map (fun i => (i.zero, i.size, i.bytes)) = some (some (.int .i64 0), 1, 8) := by kernel_rfl
set_option maxHeartbeats 1000000 in
theorem eqInts (p q : Option Addr) (c d : Nat) (zs : List Int) (w : World) (hp : Ints w p zs) (hq : Ints w q zs) (hl : zs.length ≤ 4000000000000000000) :
    Calls Try.prog 39 #[.slice p zs.length c, .slice q zs.length d] w fun e w' => e = .returned (.bool true) ∧ Below w.heap.size w w' := by
  have H := Lib.hid (And.intro hp hq)
  clear hp hq
  go_enter Try.func39, Try.ntmps39
  go_wp2_with fail
  go_loopw [5] (fun i wr => ∃ k : Nat, k ≤ zs.length ∧ i = .int .i64 k ∧ Below w.heap.size w wr) (fun i _ => zs.length - (intOf i).toNat)
  case atStart => exact ⟨0, Nat.zero_le _, rfl, Below.refl _ _⟩
  case round =>
    obtain ⟨k, hk, rfl, hbr⟩ := hrel
    have hbs := hbr.size
    by_cases hlt : k < zs.length
    · obtain ⟨B, o, r, rfl, hr, hB, e0⟩ := (H.out.1.below hbr).at hlt
      obtain ⟨B', o', r', rfl, hr', hB', e1⟩ := (H.out.2.below hbr).at hlt
      obtain rfl : r = r' := by rw [hr] at hr'; cases hr'; rfl
      clear hr hr'
      go_wp2_with fail
      (refine wp_region_grows (by kernel_rfl) (by kernel_rfl) ?_; intro W_wg hWc_wg hWs_wg hWe_wg; (repeat (go_big_quiet_step (fail))); with_reducible refine wpQuiet_nil ?_; clear hWe_wg hWs_wg hWc_wg W_wg; intro wg hb_wg; obtain ⟨hc_wg, hf_wg⟩ := bcell hb_wg; (try simp only [World.size_drew, World.cell?_drew, World.frozen?_drew, World.heap_drewN, World.cell?_drewN, World.frozen?_drewN] at hc_wg hf_wg); have hs_wg := hb_wg.size; (try simp at hs_wg))
      go_wp2_with fail
      go_roundw
      case rel => exact ⟨k + 1, by omega, by go_num, (by repeat (first | assumption | exact Below.refl _ _ | (refine below_chain ?_ (by assumption) (by first | omega | (simp <;> omega) | simp)) | (refine Below.alloc ?_ (by first | omega | (simp <;> omega) | simp) _) | (apply below_drewN) | (apply below_drew) | (refine Below.setCell ?_ (by first | omega | (simp <;> omega) | simp) _)))⟩
      case measure => simp [intOf]; omega
    · have e : k = zs.length := by omega
      subst e
      go_wp2_with fail
      go_ret
      exact ⟨rfl, (by repeat (first | assumption | exact Below.refl _ _ | (refine below_chain ?_ (by assumption) (by first | omega | (simp <;> omega) | simp)) | (refine Below.alloc ?_ (by first | omega | (simp <;> omega) | simp) _) | (apply below_drewN) | (apply below_drew) | (refine Below.setCell ?_ (by first | omega | (simp <;> omega) | simp) _)))⟩
theorem made_ints (w : World) (n : Nat) (hn : n ≤ 1048576) : (Instr.makeSlice 29 (.int .i64 (n : Int)) (.int .i64 (n : Int))).run Try.prog w = .ok (.slice (some ⟨w.heap.size, 0, none⟩) n n) (w.alloc (.cells (madeCells (Array.replicate 1 (.int .i64 0)) (n * 1)) 3)) := by
  obtain ⟨i, hi, hzz⟩ := Option.map_eq_some_iff.1 info_int
  simp only [Prod.mk.injEq] at hzz
  obtain ⟨hz, hs, hb⟩ := hzz
  have := run_make (P := Try.prog) w 29 3 i _ Try.underlying29 hi hz .i64 .i64 n n (by omega) (Int.le_refl _) (by rw [hb]; omega) (by omega)
  simp only [Int.toNat_natCast, hs] at this
  exact this

set_option maxHeartbeats 1000000 in
theorem toInts (p : Option Addr) (c : Nat) (zs : List Int) (w : World) (hp : Ints w p zs) (hl : zs.length ≤ 1048576) :
    Calls Try.prog 38 #[.slice p zs.length c] w fun e w' => e = .returned (.slice (some ⟨w.heap.size, 0, none⟩) zs.length zs.length) ∧ Own w' w.heap.size 3 1 zs.length zs.length zs ∧ Below w.heap.size w w' := by
  have H := Lib.hid hp
  have hm := fun w => made_ints w zs.length hl
  have h0 : Own (w.alloc (.cells (madeCells (Array.replicate 1 (.int .i64 0)) (zs.length * 1)) 3)) w.heap.size 3 1 zs.length zs.length (fillI 0 zs) := by
    have := Own.made w 3 zs.length 1 (by decide) (by unfold maxLen; omega)
    rw [fillI_zero]; rw [Nat.mul_one] at this ⊢; exact this
  have H0 := Lib.hid h0
  clear hp h0
  go_enter Try.func38, Try.ntmps38
  go_wp2_with fail
  clear hm
  go_loopw [4] (fun i wr => ∃ k : Nat, k ≤ zs.length ∧ i = .int .i64 k ∧ Own wr w.heap.size 3 1 zs.length zs.length (fillI k zs) ∧ Below w.heap.size w wr) (fun i _ => zs.length - (intOf i).toNat)
  case atStart => exact ⟨0, Nat.zero_le _, rfl, by simpa using H0.out, (by repeat (first | assumption | exact Below.refl _ _ | (refine below_chain ?_ (by assumption) (by first | omega | (simp <;> omega) | simp)) | (refine Below.alloc ?_ (by first | omega | (simp <;> omega) | simp) _) | (apply below_drewN) | (apply below_drew) | (refine Below.setCell ?_ (by first | omega | (simp <;> omega) | simp) _)))⟩
  case round =>
    clear H0
    obtain ⟨k, hk, rfl, how, hbr⟩ := hrel
    have hbs := hbr.size
    have HO := Lib.hid how
    by_cases hlt : k < zs.length
    · obtain ⟨B, o, r, rfl, hr, hB, e0⟩ := (H.out.below hbr).at hlt
      have hf := how.frozen k
      have hlo := how.lt
      have hcx := how.cells (i := k) (z := ((fillI k zs)[k]?).getD 0) (by have := fillI_len k zs hk; rw [List.getElem?_eq_getElem (by omega)]; rfl)
      have HR := Lib.hid hr
      clear hr how
      go_wp2_with fail
      go_roundw
      case rel => exact ⟨k + 1, by omega, by go_num, by rw [← fillI_set HR.out]; exact HO.out.set k r (by rw [fillI_len _ _ hk]; exact hlt), (by repeat (first | assumption | exact Below.refl _ _ | (refine below_chain ?_ (by assumption) (by first | omega | (simp <;> omega) | simp)) | (refine Below.alloc ?_ (by first | omega | (simp <;> omega) | simp) _) | (apply below_drewN) | (apply below_drew) | (refine Below.setCell ?_ (by first | omega | (simp <;> omega) | simp) _)))⟩
      case measure => simp [intOf]; omega
    · have e : k = zs.length := by omega
      subst e
      clear how
      go_wp2_with fail
      go_ret
      exact ⟨rfl, by have := HO.out; rw [fillI_all] at this; exact this, (by repeat (first | assumption | exact Below.refl _ _ | (refine below_chain ?_ (by assumption) (by first | omega | (simp <;> omega) | simp)) | (refine Below.alloc ?_ (by first | omega | (simp <;> omega) | simp) _) | (apply below_drewN) | (apply below_drew) | (refine Below.setCell ?_ (by first | omega | (simp <;> omega) | simp) _)))⟩

def grew (w w' : World) (g : Nat) : Prop := w.grownBy w' (some g) ∧ w'.heap.size = w.heap.size
theorem grew.refl (w : World) (g : Nat) : grew w w g := ⟨⟨rfl, rfl, rfl, Nat.le_refl _, fun _ _ _ => rfl⟩, rfl⟩
theorem grew.set {w w' : World} {g : Nat} (h : grew w w' g) (o : Nat) (v : Value) : grew w (w'.setCell ⟨g, o, none⟩ v) g :=
  ⟨⟨h.1.os, h.1.tape, h.1.output, by simpa [World.setCell] using h.1.size, fun i hi hne => (Below.heap_setCell w' ⟨g, o, none⟩ v i (by rintro rfl; exact hne rfl)).trans (h.1.block i hi hne)⟩, by simpa [World.setCell] using h.2⟩

/-- s, s + 1, .. -/
def seqI (s : Int) (n : Nat) : List Int := (List.range n).map (fun i : Nat => s + (i : Int))
theorem seqI_len (s : Int) (n : Nat) : (seqI s n).length = n := by simp [seqI]
theorem seqI_at {s : Int} {n i : Nat} (h : i < n) : (seqI s n)[i]? = some (s + i) := by unfold seqI; rw [List.getElem?_map, List.getElem?_range h]; rfl
/-- the first k marked from s on -/
def mkS (s : Int) (k : Nat) (xs : List Int) : List Int := seqI s k ++ xs.drop k
theorem mkS_zero (s : Int) (xs : List Int) : mkS s 0 xs = xs := by simp [mkS, seqI]
theorem mkS_len {s : Int} {k : Nat} {xs : List Int} (h : k ≤ xs.length) : (mkS s k xs).length = xs.length := by simp [mkS, seqI]; omega
theorem mkS_all {s : Int} {xs : List Int} : mkS s xs.length xs = seqI s xs.length := by simp [mkS]
theorem mkS_set {s : Int} {k : Nat} {xs : List Int} (h : k < xs.length) : (mkS s k xs).set k (s + k) = mkS s (k + 1) xs := by
  unfold mkS seqI
  rw [List.set_append_right _ _ (by simp)]
  rw [List.range_succ, List.map_append, List.append_assoc]
  congr 1
  rw [List.length_map, List.length_range, Nat.sub_self]
  have e : xs.drop k = xs[k] :: xs.drop (k + 1) := List.drop_eq_getElem_cons h
  rw [e]
  rfl
set_option maxHeartbeats 1000000 in
theorem markIntsS (g n cap : Nat) (s : Int) (xs : List Int) (w : World) (hp : Own w g 3 1 n cap xs) (hl : n ≤ 1048576) (hs0 : 0 ≤ s) (hs1 : s ≤ 4000000000000) :
    Calls Try.prog 40 #[.slice (some ⟨g, 0, none⟩) n cap, .int .i64 s] w fun e w' => e = .returned (.int .i64 (s + n)) ∧ Own w' g 3 1 n cap (seqI s n) ∧ grew w w' g := by
  have hx : xs.length = n := by have := hp.len; omega
  have h0 := Lib.hid hp
  clear hp
  go_enter Try.func40, Try.ntmps40
  go_wp2_with fail
  go_loopw [1, 5] (fun m i wr => ∃ k : Nat, k ≤ n ∧ i = .int .i64 k ∧ m = .int .i64 (s + k) ∧ Own wr g 3 1 n cap (mkS s k xs) ∧ grew w wr g) (fun _ i _ => n - (intOf i).toNat)
  case atStart => exact ⟨0, Nat.zero_le _, rfl, by simp, by rw [mkS_zero]; exact h0.out, grew.refl _ _⟩
  case round =>
    obtain ⟨k, hk, rfl, rfl, how, hbr⟩ := hrel
    have HO := Lib.hid how
    have HG := Lib.hid hbr
    by_cases hlt : k < n
    · have hf := how.frozen k
      have hlo := how.lt
      have hcx := how.cells (i := k) (z := ((mkS s k xs)[k]?).getD 0) (by have := mkS_len (s := s) (k := k) (xs := xs) (by omega); rw [List.getElem?_eq_getElem (by omega)]; rfl)
      clear how hbr h0
      go_wp2_with fail
      go_roundw
      case rel => exact ⟨k + 1, by omega, by go_num, by go_num, by rw [← mkS_set (by omega)]; exact HO.out.set k _ (by rw [mkS_len (by omega)]; omega), HG.out.set _ _⟩
      case measure => simp [intOf]; omega
    · have e : k = n := by omega
      subst e
      clear how hbr h0
      go_wp2_with fail
      go_ret
      exact ⟨rfl, by have := HO.out; rw [← hx, mkS_all] at this; rw [← hx]; exact this, HG.out⟩
set_option maxHeartbeats 1000000 in
theorem heldIntsS (n c : Nat) (p : Option Addr) (s : Int) (w : World) (hp : Ints w p (seqI s n)) (hl : n ≤ 1048576) (hs0 : 0 ≤ s) (hs1 : s ≤ 4000000000000) :
    Calls Try.prog 41 #[.slice p n c, .int .i64 s] w fun e w' => e = .returned (.int .i64 (s + n)) ∧ w = w' := by
  have h0 := Lib.hid hp
  clear hp
  go_enter Try.func41, Try.ntmps41
  go_wp2_with fail
  go_loopw [1, 5] (fun m i wr => ∃ k : Nat, k ≤ n ∧ i = .int .i64 k ∧ m = .int .i64 (s + k) ∧ w = wr) (fun _ i _ => n - (intOf i).toNat)
  case atStart => exact ⟨0, Nat.zero_le _, rfl, by simp, rfl⟩
  case round =>
    obtain ⟨k, hk, rfl, rfl, rfl⟩ := hrel
    by_cases hlt : k < n
    · obtain ⟨B, o, z, rfl, hz, hB, hcx⟩ := h0.out.at (i := k) (by rw [seqI_len]; exact hlt)
      rw [seqI_at hlt] at hz
      cases hz
      go_wp2_with fail
      go_roundw
      case rel => exact ⟨k + 1, by omega, by go_num, by go_num, by first | trivial | rfl⟩
      case measure => simp [intOf]; omega
    · have e : k = n := by omega
      subst e
      go_wp2_with fail
      go_ret
      exact ⟨rfl, rfl⟩
theorem szIntsS (p : Option Addr) (len c : Nat) (v : Int) (w : World) (hl : len ≤ 9223372036854775807) (h0 : 0 ≤ v) (h1 : v ≤ 1048576) :
    Calls Try.prog 54 #[.slice p len c, .int .i64 v] w fun e w' => e = .returned (.int .i64 (if v < (len : Int) then -1 else v - len)) ∧ w = w' := by
  by_cases h : v < (len : Int)
  · go_enter Try.func54, Try.ntmps54
    go_wp2_with fail
    go_ret
    exact ⟨by simp [h], rfl⟩
  · go_enter Try.func54, Try.ntmps54
    go_wp2_with fail
    go_ret
    exact ⟨by simp [h], rfl⟩
end Go.Proofs.Ythpfhbogpnhgmaa
