/-
  How the laws hand points over and compare them.
-/
import Derived.Test.YtegcjdcinebleaaYr
import Derived.Test.YtegcjdcinebleaaPl
import Derived.Deep.RegionHeld3
import Derived.Deep.DeepCutAuto
namespace Go.Proofs.Ytegcjdcinebleaa
open Go.RowKit Poly
set_option linter.unusedVariables false

/-- a list of points of which the first k are there -/
def fillP (k : Nat) (L : List P2) : List P2 := L.take k ++ List.replicate (L.length - k) (0, 0)
theorem fillP_zero (L : List P2) : fillP 0 L = List.replicate L.length (0, 0) := by simp [fillP]
theorem fillP_all (L : List P2) : fillP L.length L = L := by simp [fillP]
theorem fillP_len (k : Nat) (L : List P2) (h : k ≤ L.length) : (fillP k L).length = L.length := by simp [fillP]; omega
theorem fillP_set {k : Nat} {L : List P2} {r : P2} (h : L[k]? = some r) : (fillP k L).set k r = fillP (k + 1) L := by
  have hk := (List.getElem?_eq_some_iff.1 h).1
  have hr := (List.getElem?_eq_some_iff.1 h).2
  unfold fillP
  rw [List.set_append_right _ _ (by simp; omega), show k - (L.take k).length = 0 by simp; omega]
  obtain ⟨m, hm⟩ : ∃ m, L.length - k = m + 1 := ⟨L.length - k - 1, by omega⟩
  rw [hm, List.replicate_succ, List.set_cons_zero, List.take_add_one, h, show L.length - (k + 1) = m by omega]
  simp
theorem fl_zeros (n : Nat) : fl (List.replicate n (0, 0)) = List.replicate (n * 2) 0 := by
  induction n with
  | zero => rfl
  | succ n ih => rw [List.replicate_succ, show (n + 1) * 2 = n * 2 + 1 + 1 by omega, List.replicate_succ, List.replicate_succ]; simp [fl, ih]
theorem fl_set : ∀ {L : List P2} {i : Nat} (r : P2), i < L.length → fl (L.set i r) = ((fl L).set (i * 2) r.1).set (i * 2 + 1) r.2
  | [], i, r, h => by simp at h
  | q :: l, 0, r, h => by simp [fl]
  | q :: l, i + 1, r, h => by
    have := fl_set (L := l) (i := i) r (by simpa using h)
    have e : (i + 1) * 2 = i * 2 + 1 + 1 := by omega
    rw [e, show i * 2 + 1 + 1 + 1 = (i * 2 + 1) + 1 + 1 by omega]
    simp [fl, this]
theorem Own.setP {w : World} {g : Nat} {T : TypeId} {n cap : Nat} {L : List P2} (h : Own w g T 2 n cap (fl L)) {i : Nat} (hi : i < L.length) (r : P2) :
    Own ((w.setCell ⟨g, i * 2, none⟩ (.int .i64 r.1)).setCell ⟨g, i * 2 + 1, none⟩ (.int .i64 r.2)) g T 2 n cap (fl (L.set i r)) := by
  rw [fl_set r hi]
  have h1 := h.set (i * 2) r.1 (by rw [fl_len]; omega)
  exact h1.set (i * 2 + 1) r.2 (by rw [List.length_set, fl_len]; omega)
theorem Own.pts {w : World} {g : Nat} {T : TypeId} {n cap : Nat} {L : List P2} (h : Own w g T 2 n cap (fl L)) : Ints w (some ⟨g, 0, none⟩) (fl L) :=
  .inr ⟨g, 0, rfl, h.lt, fun i z hi => by rw [Nat.zero_add]; exact h.cells hi⟩
theorem info_point : (Try.prog.info? 31).map (fun i => (i.zero, i.size, i.bytes)) = some (some (.agg #[.int .i64 0, .int .i64 0]), 2, 16) := by kernel_rfl
theorem szPts (p : Option Addr) (len c : Nat) (w : World) (hl : len ≤ 9223372036854775807) :
    Calls Try.prog 54 #[.slice p len c, .int .i64 1048576] w fun e w' => e = .returned (.int .i64 (if 1048576 < (len : Int) then -1 else 1048576 - len)) ∧ w = w' := by
  by_cases h : 1048576 < (len : Int)
  · go_enter Try.func54, Try.ntmps54
    go_wp2_with fail
    go_ret
    exact ⟨by simp, rfl⟩
  · go_enter Try.func54, Try.ntmps54
    go_wp2_with fail
    go_ret
    exact ⟨by simp, rfl⟩
theorem made_pts (w : World) (n : Nat) (hn : n ≤ 1048576) : (Instr.makeSlice 23 (.int .i64 (n : Int)) (.int .i64 (n : Int))).run Try.prog w = .ok (.slice (some ⟨w.heap.size, 0, none⟩) n n) (w.alloc (.cells (madeCells (Array.replicate 2 (.int .i64 0)) (n * 2)) 31)) := by
  obtain ⟨i, hi, hzz⟩ := Option.map_eq_some_iff.1 info_point
  simp only [Prod.mk.injEq] at hzz
  obtain ⟨hz, hs, hb⟩ := hzz
  have := run_make (P := Try.prog) w 23 31 i _ Try.underlying23 hi hz .i64 .i64 n n (by omega) (Int.le_refl _) (by rw [hb]; omega) (by omega)
  simp only [Int.toNat_natCast, hs] at this
  exact this
set_option maxHeartbeats 2000000 in
theorem toPts (p : Option Addr) (c : Nat) (L : List P2) (w : World) (hp : Ints w p (fl L)) (hl : L.length ≤ 1048576) :
    Calls Try.prog 55 #[.slice p L.length c] w fun e w' => e = .returned (.slice (some ⟨w.heap.size, 0, none⟩) L.length L.length) ∧ Own w' w.heap.size 31 2 L.length L.length (fl L) ∧ Below w.heap.size w w' := by
  have H := Lib.hid hp
  have hm := fun w => made_pts w L.length hl
  have h0 : Own (w.alloc (.cells (madeCells (Array.replicate 2 (.int .i64 0)) (L.length * 2)) 31)) w.heap.size 31 2 L.length L.length (fl (fillP 0 L)) := by
    rw [fillP_zero, fl_zeros]
    exact Own.made w 31 L.length 2 (by decide) (by unfold maxLen; omega)
  have H0 := Lib.hid h0
  clear hp h0
  go_enter Try.func55, Try.ntmps55
  go_wp2_with fail
  clear hm
  go_loopw [4] (fun i wr => ∃ k : Nat, k ≤ L.length ∧ i = .int .i64 k ∧ Own wr w.heap.size 31 2 L.length L.length (fl (fillP k L)) ∧ Below w.heap.size w wr) (fun i _ => L.length - (intOf i).toNat)
  case atStart => exact ⟨0, Nat.zero_le _, rfl, by simpa using H0.out, (by repeat (first | assumption | exact Below.refl _ _ | (refine below_chain ?_ (by assumption) (by first | omega | (simp <;> omega) | simp)) | (refine Below.alloc ?_ (by first | omega | (simp <;> omega) | simp) _) | (apply below_drewN) | (apply below_drew) | (refine Below.setCell ?_ (by first | omega | (simp <;> omega) | simp) _)))⟩
  case round =>
    clear H0
    obtain ⟨k, hk, rfl, how, hbr⟩ := hrel
    have hbs := hbr.size
    have HO := Lib.hid how
    by_cases hlt : k < L.length
    · obtain ⟨B, o, rfl, hB, e0, e1⟩ := (H.out.below hbr).pt hlt
      have hf0 := how.frozen (k * 2)
      have hf1 := how.frozen (k * 2 + 1)
      have hlo := how.lt
      obtain ⟨r', hr'⟩ : ∃ r', (fillP k L)[k]? = some r' := ⟨_, List.getElem?_eq_getElem (by rw [fillP_len _ _ hk]; exact hlt)⟩
      have x0 := how.cells (fl_at hr').1
      have x1 := how.cells (fl_at hr').2
      clear how hr'
      go_wp2_with ((go_at_call 97; (with_reducible refine (toPoint_any _ _ _).mono ?_); rintro e wn ⟨rfl, hbn⟩; obtain ⟨hcn, hfn⟩ := bcell hbn; (try simp only [World.size_drew, World.cell?_drew, World.frozen?_drew, World.heap_drewN, World.cell?_drewN, World.frozen?_drewN] at hcn hfn); have hsz := hbn.size; (try simp at hsz); (try have hsl := Nat.lt_of_succ_le hsz); (try have hz0 : w.heap.size < wn.heap.size := (by have := hbn.size; (try simp at this); omega))))
      go_roundw
      case rel => exact ⟨k + 1, by omega, by go_num, by rw [← fillP_set (cy_lt hlt)]; exact (HO.out.below hbn).setP (by rw [fillP_len _ _ hk]; exact hlt) (cy L k), (by repeat (first | assumption | exact Below.refl _ _ | (refine below_chain ?_ (by assumption) (by first | omega | (simp <;> omega) | simp)) | (refine Below.alloc ?_ (by first | omega | (simp <;> omega) | simp) _) | (apply below_drewN) | (apply below_drew) | (refine Below.setCell ?_ (by first | omega | (simp <;> omega) | simp) _)))⟩
      case measure => simp [intOf]; omega
    · have e : k = L.length := by omega
      subst e
      clear how
      go_wp2_with fail
      go_ret
      exact ⟨rfl, by have := HO.out; rw [fillP_all] at this; exact this, (by repeat (first | assumption | exact Below.refl _ _ | (refine below_chain ?_ (by assumption) (by first | omega | (simp <;> omega) | simp)) | (refine Below.alloc ?_ (by first | omega | (simp <;> omega) | simp) _) | (apply below_drewN) | (apply below_drew) | (refine Below.setCell ?_ (by first | omega | (simp <;> omega) | simp) _)))⟩
set_option maxHeartbeats 1000000 in
theorem eqPts (p q : Option Addr) (c d : Nat) (L : List P2) (w : World) (hp : Ints w p (fl L)) (hq : Ints w q (fl L)) (hl : L.length ≤ 4000000000000000000) :
    Calls Try.prog 56 #[.slice p L.length c, .slice q L.length d] w fun e w' => e = .returned (.bool true) ∧ Below w.heap.size w w' := by
  have H := Lib.hid (And.intro hp hq)
  clear hp hq
  go_enter Try.func56, Try.ntmps56
  go_wp2_with fail
  go_loopw [5] (fun i wr => ∃ k : Nat, k ≤ L.length ∧ i = .int .i64 k ∧ Below w.heap.size w wr) (fun i _ => L.length - (intOf i).toNat)
  case atStart => exact ⟨0, Nat.zero_le _, rfl, Below.refl _ _⟩
  case round =>
    obtain ⟨k, hk, rfl, hbr⟩ := hrel
    have hbs := hbr.size
    by_cases hlt : k < L.length
    · obtain ⟨B, o, rfl, hB, e0, e1⟩ := (H.out.1.below hbr).pt hlt
      obtain ⟨B', o', rfl, hB', e2, e3⟩ := (H.out.2.below hbr).pt hlt
      go_wp2_with fail
      (refine wp_region_grows (by kernel_rfl) (by kernel_rfl) ?_; intro W_wg hWc_wg hWs_wg hWe_wg; (repeat (go_big_quiet_step ((go_at_call 98; with_reducible exact Ext.call (eqPoint_any _ _ _))))); with_reducible refine wpQuiet_nil ?_; clear hWe_wg hWs_wg hWc_wg W_wg; intro wg hb_wg; obtain ⟨hc_wg, hf_wg⟩ := bcell hb_wg; (try simp only [World.size_drew, World.cell?_drew, World.frozen?_drew, World.heap_drewN, World.cell?_drewN, World.frozen?_drewN] at hc_wg hf_wg); have hs_wg := hb_wg.size; (try simp at hs_wg))
      go_wp2_with fail
      go_roundw
      case rel => exact ⟨k + 1, by omega, by go_num, (by repeat (first | assumption | exact Below.refl _ _ | (refine below_chain ?_ (by assumption) (by first | omega | (simp <;> omega) | simp)) | (refine Below.alloc ?_ (by first | omega | (simp <;> omega) | simp) _) | (apply below_drewN) | (apply below_drew) | (refine Below.setCell ?_ (by first | omega | (simp <;> omega) | simp) _)))⟩
      case measure => simp [intOf]; omega
    · have e : k = L.length := by omega
      subst e
      go_wp2_with fail
      go_ret
      exact ⟨rfl, (by repeat (first | assumption | exact Below.refl _ _ | (refine below_chain ?_ (by assumption) (by first | omega | (simp <;> omega) | simp)) | (refine Below.alloc ?_ (by first | omega | (simp <;> omega) | simp) _) | (apply below_drewN) | (apply below_drew) | (refine Below.setCell ?_ (by first | omega | (simp <;> omega) | simp) _)))⟩
end Go.Proofs.Ytegcjdcinebleaa
