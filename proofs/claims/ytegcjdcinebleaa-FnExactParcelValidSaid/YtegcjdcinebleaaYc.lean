/-
  What the program's methods on a corner answer: turns, what a side carries, which sides clash, what lies to the east.
-/
import Derived.Test.YtegcjdcinebleaaYr
import Derived.Test.YtegcjdcinebleaaPy
import Derived.Test.YtegcjdcinebleaaPx
namespace Go.Proofs.Ytegcjdcinebleaa
open Go.RowKit Poly
set_option linter.unusedVariables false

theorem three_of {a b p : P2} (ha : pvP a = true) (hb : pvP b = true) (hp : pvP p = true) : three a.1 a.2 b.1 b.2 p.1 p.2 = true := by
  unfold pvP at ha hb hp; unfold three; rw [ha, hb, hp]; rfl
theorem iSideP {a b p : P2} (ha : pvP a = true) (hb : pvP b = true) (hp : pvP p = true) (w : World) :
    Calls Try.prog 121 #[.agg #[.int .i64 a.1, .int .i64 a.2], .agg #[.int .i64 b.1, .int .i64 b.2], .agg #[.int .i64 p.1, .int .i64 p.2]] w fun e w' => e = .returned (.tuple #[.int .i64 (sd a b p), .bool true]) ∧ Below w.heap.size w w' :=
  iSide_yes a.1 a.2 b.1 b.2 p.1 p.2 _ w (three_of ha hb hp) rfl
theorem iOnP {a b p : P2} (ha : pvP a = true) (hb : pvP b = true) (hp : pvP p = true) (w : World) :
    Calls Try.prog 51 #[.agg #[.int .i64 a.1, .int .i64 a.2], .agg #[.int .i64 b.1, .int .i64 b.2], .agg #[.int .i64 p.1, .int .i64 p.2]] w fun e w' => e = .returned (.bool (onP a b p)) ∧ Below w.heap.size w w' := by
  have := iOn_any a.1 a.2 b.1 b.2 p.1 p.2 w
  unfold onV at this
  rw [three_of ha hb hp] at this
  exact this

theorem sd_bd (a b c : P2) : -1 ≤ sd a b c ∧ sd a b c ≤ 1 := by unfold sd sgn; split <;> (try split) <;> omega
theorem sd_mul (a b c d : P2) : -1 ≤ sd a b c * sd a b d ∧ sd a b c * sd a b d ≤ 1 := by
  unfold sd sgn
  split <;> split <;> (try split) <;> (try split) <;> simp
section
variable {n₀ : Nat} {A : Nat → Nat} {L : List P2} {w : World}
/-- the cells of a corner and of the next one -/
theorem Ring.cells (h : Ring n₀ A L w) (k : Nat) : w.cell? ⟨A k, 0, none⟩ = some (.int .i64 (cy L k).1) ∧ w.cell? ⟨A k, 1, none⟩ = some (.int .i64 (cy L k).2) ∧ w.cell? ⟨A k, 2, none⟩ = some (.pointer (some ⟨A (k + 1), 0, none⟩)) := h.at' k
theorem iTurn (hR : Ring n₀ A L w) (hn : n₀ ≤ w.heap.size) (hv : ∀ i, pvP (cy L i) = true) (k : Nat) {p : P2} (hp : pvP p = true) :
    Calls Try.prog 110 #[.pointer (some ⟨A k, 0, none⟩), .agg #[.int .i64 p.1, .int .i64 p.2]] w fun e w' => e = .returned (.int .i64 (sd (cy L k) (cy L (k + 1)) p)) ∧ Below w.heap.size w w' := by
  have c1 := fun w => Lib.hid (iSideP (hv k) (hv (k + 1)) hp w)
  obtain ⟨x0, x1, x2⟩ := hR.cells k
  obtain ⟨y0, y1, -⟩ := hR.cells (k + 1)
  have l1 := hR.lt k
  have l2 := hR.lt (k + 1)
  have l3 : A k < w.heap.size := by omega
  have l4 : A (k + 1) < w.heap.size := by omega
  clear hR hv hp
  go_enter Try.func110, Try.ntmps110
  go_upto_region 1 with fail
  (refine wp_region_grows (by kernel_rfl) (by kernel_rfl) ?_; intro W_wg hWc_wg hWs_wg hWe_wg; (repeat (go_big_quiet_step ((go_at_call 121; with_reducible exact Ext.call ((c1 _).out))))); with_reducible refine wpQuiet_nil ?_; clear hWe_wg hWs_wg hWc_wg W_wg; intro wg hb_wg; obtain ⟨hc_wg, hf_wg⟩ := bcell hb_wg; (try simp only [World.size_drew, World.cell?_drew, World.frozen?_drew, World.heap_drewN, World.cell?_drewN, World.frozen?_drewN] at hc_wg hf_wg); have hs_wg := hb_wg.size; (try simp at hs_wg))
  go_wp2_with fail
  go_ret
  exact ⟨rfl, (by repeat (first | assumption | exact Below.refl _ _ | (refine below_chain ?_ (by assumption) (by first | omega | (simp <;> omega) | simp)) | (refine Below.alloc ?_ (by first | omega | (simp <;> omega) | simp) _) | (apply below_drewN) | (apply below_drew) | (refine Below.setCell ?_ (by first | omega | (simp <;> omega) | simp) _)))⟩
theorem iCarries (hR : Ring n₀ A L w) (hn : n₀ ≤ w.heap.size) (hv : ∀ i, pvP (cy L i) = true) (k : Nat) {p : P2} (hp : pvP p = true) :
    Calls Try.prog 108 #[.pointer (some ⟨A k, 0, none⟩), .agg #[.int .i64 p.1, .int .i64 p.2]] w fun e w' => e = .returned (.bool (onP (cy L k) (cy L (k + 1)) p)) ∧ Below w.heap.size w w' := by
  have c1 := fun w => Lib.hid (iOnP (hv k) (hv (k + 1)) hp w)
  obtain ⟨x0, x1, x2⟩ := hR.cells k
  obtain ⟨y0, y1, -⟩ := hR.cells (k + 1)
  have l1 := hR.lt k
  have l2 := hR.lt (k + 1)
  have l3 : A k < w.heap.size := by omega
  have l4 : A (k + 1) < w.heap.size := by omega
  clear hR hv hp
  go_enter Try.func108, Try.ntmps108
  go_upto_region 1 with fail
  (refine wp_region_grows (by kernel_rfl) (by kernel_rfl) ?_; intro W_wg hWc_wg hWs_wg hWe_wg; (repeat (go_big_quiet_step ((go_at_call 51; with_reducible exact Ext.call ((c1 _).out))))); with_reducible refine wpQuiet_nil ?_; clear hWe_wg hWs_wg hWc_wg W_wg; intro wg hb_wg; obtain ⟨hc_wg, hf_wg⟩ := bcell hb_wg; (try simp only [World.size_drew, World.cell?_drew, World.frozen?_drew, World.heap_drewN, World.cell?_drewN, World.frozen?_drewN] at hc_wg hf_wg); have hs_wg := hb_wg.size; (try simp at hs_wg))
  go_wp2_with fail
  go_ret
  exact ⟨rfl, (by repeat (first | assumption | exact Below.refl _ _ | (refine below_chain ?_ (by assumption) (by first | omega | (simp <;> omega) | simp)) | (refine Below.alloc ?_ (by first | omega | (simp <;> omega) | simp) _) | (apply below_drewN) | (apply below_drew) | (refine Below.setCell ?_ (by first | omega | (simp <;> omega) | simp) _)))⟩
theorem iCarries_is (hR : Ring n₀ A L w) (hn : n₀ ≤ w.heap.size) (hv : ∀ i, pvP (cy L i) = true) (k : Nat) {p : P2} (hp : pvP p = true) {b : Bool} (hb : onP (cy L k) (cy L (k + 1)) p = b) :
    Calls Try.prog 108 #[.pointer (some ⟨A k, 0, none⟩), .agg #[.int .i64 p.1, .int .i64 p.2]] w fun e w' => e = .returned (.bool b) ∧ Below w.heap.size w w' := by
  rw [← hb]; exact iCarries hR hn hv k hp
/-- whether a side and the next one fold back -/
def foldsP (L : List P2) (k : Nat) : Bool := onP (cy L k) (cy L (k + 1)) (cy L (k + 2)) || onP (cy L (k + 1)) (cy L (k + 2)) (cy L k)
theorem iFolds (hR : Ring n₀ A L w) (hn : n₀ ≤ w.heap.size) (hv : ∀ i, pvP (cy L i) = true) (k : Nat) :
    Calls Try.prog 123 #[.pointer (some ⟨A k, 0, none⟩)] w fun e w' => e = .returned (.bool (foldsP L k)) ∧ Below w.heap.size w w' := by
  unfold foldsP
  obtain ⟨b1, h1⟩ : ∃ b, onP (cy L k) (cy L (k + 1)) (cy L (k + 2)) = b := ⟨_, rfl⟩
  obtain ⟨b2, h2⟩ : ∃ b, onP (cy L (k + 1)) (cy L (k + 2)) (cy L k) = b := ⟨_, rfl⟩
  rw [h1, h2]
  have c1 := fun (W : World) (hc : ∀ b o, W.cell? ⟨b, o, none⟩ = w.cell? ⟨b, o, none⟩) (hs : W.heap.size = w.heap.size) (d : Ext W) => Lib.hid (iCarries_is (hR.ext hn hc hs d).1 (hR.ext hn hc hs d).2 hv k (hv (k + 2)) h1)
  have c2 := fun (W : World) (hc : ∀ b o, W.cell? ⟨b, o, none⟩ = w.cell? ⟨b, o, none⟩) (hs : W.heap.size = w.heap.size) (d : Ext W) => Lib.hid (iCarries_is (hR.ext hn hc hs d).1 (hR.ext hn hc hs d).2 hv (k + 1) (hv k) h2)
  obtain ⟨x0, x1, x2⟩ := hR.cells k
  obtain ⟨y0, y1, y2⟩ := hR.cells (k + 1)
  obtain ⟨z0, z1, z2⟩ := hR.cells (k + 2)
  have l1 := hR.lt k
  have l2 := hR.lt (k + 1)
  have l3 := hR.lt (k + 2)
  have l4 : A k < w.heap.size := by omega
  have l5 : A (k + 1) < w.heap.size := by omega
  have l6 : A (k + 2) < w.heap.size := by omega
  clear hR hv h1 h2
  go_enter Try.func123, Try.ntmps123
  go_upto_region 1 with fail
  cases b1
  · (refine wp_region_grows (by kernel_rfl) (by kernel_rfl) ?_; intro W_wg hWc_wg hWs_wg hWe_wg; (repeat (go_big_quiet_step ((first | (go_at_call 108; with_reducible exact Ext.call ((c1 _ hWc_wg hWs_wg _).out)) | (go_at_call 108; with_reducible exact Ext.call ((c2 _ hWc_wg hWs_wg _).out)))))); with_reducible refine wpQuiet_nil ?_; clear hWe_wg hWs_wg hWc_wg W_wg; intro wg hb_wg; obtain ⟨hc_wg, hf_wg⟩ := bcell hb_wg; (try simp only [World.size_drew, World.cell?_drew, World.frozen?_drew, World.heap_drewN, World.cell?_drewN, World.frozen?_drewN] at hc_wg hf_wg); have hs_wg := hb_wg.size; (try simp at hs_wg))
    go_wp2_with fail
    go_ret
    exact ⟨rfl, (by repeat (first | assumption | exact Below.refl _ _ | (refine below_chain ?_ (by assumption) (by first | omega | (simp <;> omega) | simp)) | (refine Below.alloc ?_ (by first | omega | (simp <;> omega) | simp) _) | (apply below_drewN) | (apply below_drew) | (refine Below.setCell ?_ (by first | omega | (simp <;> omega) | simp) _)))⟩
  · (refine wp_region_grows (by kernel_rfl) (by kernel_rfl) ?_; intro W_wg hWc_wg hWs_wg hWe_wg; (repeat (go_big_quiet_step ((first | (go_at_call 108; with_reducible exact Ext.call ((c1 _ hWc_wg hWs_wg _).out)) | (go_at_call 108; with_reducible exact Ext.call ((c2 _ hWc_wg hWs_wg _).out)))))); with_reducible refine wpQuiet_nil ?_; clear hWe_wg hWs_wg hWc_wg W_wg; intro wg hb_wg; obtain ⟨hc_wg, hf_wg⟩ := bcell hb_wg; (try simp only [World.size_drew, World.cell?_drew, World.frozen?_drew, World.heap_drewN, World.cell?_drewN, World.frozen?_drewN] at hc_wg hf_wg); have hs_wg := hb_wg.size; (try simp at hs_wg))
    go_wp2_with fail
    go_ret
    exact ⟨rfl, (by repeat (first | assumption | exact Below.refl _ _ | (refine below_chain ?_ (by assumption) (by first | omega | (simp <;> omega) | simp)) | (refine Below.alloc ?_ (by first | omega | (simp <;> omega) | simp) _) | (apply below_drewN) | (apply below_drew) | (refine Below.setCell ?_ (by first | omega | (simp <;> omega) | simp) _)))⟩
theorem iParts (hR : Ring n₀ A L w) (hn : n₀ ≤ w.heap.size) (hv : ∀ i, pvP (cy L i) = true) (j k : Nat) :
    Calls Try.prog 126 #[.pointer (some ⟨A j, 0, none⟩), .pointer (some ⟨A k, 0, none⟩)] w fun e w' => e = .returned (.bool (parts (cy L j) (cy L (j + 1)) (cy L k) (cy L (k + 1)))) ∧ Below w.heap.size w w' := by
  have c1 := fun (W : World) (hc : ∀ b o, W.cell? ⟨b, o, none⟩ = w.cell? ⟨b, o, none⟩) (hs : W.heap.size = w.heap.size) (d : Ext W) => Lib.hid (iTurn (hR.ext hn hc hs d).1 (hR.ext hn hc hs d).2 hv j (hv k))
  have c2 := fun (W : World) (hc : ∀ b o, W.cell? ⟨b, o, none⟩ = w.cell? ⟨b, o, none⟩) (hs : W.heap.size = w.heap.size) (d : Ext W) => Lib.hid (iTurn (hR.ext hn hc hs d).1 (hR.ext hn hc hs d).2 hv j (hv (k + 1)))
  obtain ⟨x0, x1, x2⟩ := hR.cells k
  obtain ⟨y0, y1, y2⟩ := hR.cells (k + 1)
  have l1 := hR.lt k
  have l2 := hR.lt (k + 1)
  have l4 : A k < w.heap.size := by omega
  have l5 : A (k + 1) < w.heap.size := by omega
  have hm := sd_mul (cy L j) (cy L (j + 1)) (cy L k) (cy L (k + 1))
  unfold parts
  clear hR hv
  go_enter Try.func126, Try.ntmps126
  go_upto_region 1 with fail
  (refine wp_region_grows (by kernel_rfl) (by kernel_rfl) ?_; intro W_wg hWc_wg hWs_wg hWe_wg; (repeat (go_big_quiet_step ((first | (go_at_call 110; with_reducible exact Ext.call ((c1 _ hWc_wg hWs_wg _).out)) | (go_at_call 110; with_reducible exact Ext.call ((c2 _ hWc_wg hWs_wg _).out)))))); with_reducible refine wpQuiet_nil ?_; clear hWe_wg hWs_wg hWc_wg W_wg; intro wg hb_wg; obtain ⟨hc_wg, hf_wg⟩ := bcell hb_wg; (try simp only [World.size_drew, World.cell?_drew, World.frozen?_drew, World.heap_drewN, World.cell?_drewN, World.frozen?_drewN] at hc_wg hf_wg); have hs_wg := hb_wg.size; (try simp at hs_wg))
  go_wp2_with fail
  go_ret
  exact ⟨rfl, (by repeat (first | assumption | exact Below.refl _ _ | (refine below_chain ?_ (by assumption) (by first | omega | (simp <;> omega) | simp)) | (refine Below.alloc ?_ (by first | omega | (simp <;> omega) | simp) _) | (apply below_drewN) | (apply below_drew) | (refine Below.setCell ?_ (by first | omega | (simp <;> omega) | simp) _)))⟩
set_option maxHeartbeats 4000000 in
theorem iMeets (hR : Ring n₀ A L w) (hn : n₀ ≤ w.heap.size) (hv : ∀ i, pvP (cy L i) = true) (j k : Nat) :
    Calls Try.prog 124 #[.pointer (some ⟨A j, 0, none⟩), .pointer (some ⟨A k, 0, none⟩)] w fun e w' => e = .returned (.bool (meet (cy L j) (cy L (j + 1)) (cy L k) (cy L (k + 1)))) ∧ Below w.heap.size w w' := by
  have hm : meet (cy L j) (cy L (j + 1)) (cy L k) (cy L (k + 1)) = (touch (cy L j) (cy L (j + 1)) (cy L k) (cy L (k + 1)) || (parts (cy L j) (cy L (j + 1)) (cy L k) (cy L (k + 1)) && parts (cy L k) (cy L (k + 1)) (cy L j) (cy L (j + 1)))) := rfl
  have hm2 : touch (cy L j) (cy L (j + 1)) (cy L k) (cy L (k + 1)) = (onP (cy L j) (cy L (j + 1)) (cy L k) || onP (cy L j) (cy L (j + 1)) (cy L (k + 1)) || onP (cy L k) (cy L (k + 1)) (cy L j) || onP (cy L k) (cy L (k + 1)) (cy L (j + 1))) := rfl
  rw [hm2] at hm
  rw [hm]
  have c1 := fun w h1 h2 => Lib.hid (iCarries (A := A) (L := L) (n₀ := n₀) (w := w) h1 h2 hv j (hv k))
  have c2 := fun w h1 h2 => Lib.hid (iCarries (A := A) (L := L) (n₀ := n₀) (w := w) h1 h2 hv j (hv (k + 1)))
  have c3 := fun w h1 h2 => Lib.hid (iCarries (A := A) (L := L) (n₀ := n₀) (w := w) h1 h2 hv k (hv j))
  have c4 := fun w h1 h2 => Lib.hid (iCarries (A := A) (L := L) (n₀ := n₀) (w := w) h1 h2 hv k (hv (j + 1)))
  have c5 := fun w h1 h2 => Lib.hid (iParts (A := A) (L := L) (n₀ := n₀) (w := w) h1 h2 hv j k)
  have c6 := fun w h1 h2 => Lib.hid (iParts (A := A) (L := L) (n₀ := n₀) (w := w) h1 h2 hv k j)
  obtain ⟨x0, x1, x2⟩ := hR.cells j
  obtain ⟨y0, y1, y2⟩ := hR.cells (j + 1)
  obtain ⟨z0, z1, z2⟩ := hR.cells k
  obtain ⟨t0, t1, t2⟩ := hR.cells (k + 1)
  have l1 : A j < w.heap.size := Nat.lt_of_lt_of_le (hR.lt j) hn
  have l2 : A (j + 1) < w.heap.size := Nat.lt_of_lt_of_le (hR.lt (j + 1)) hn
  have l3 : A k < w.heap.size := Nat.lt_of_lt_of_le (hR.lt k) hn
  have l4 : A (k + 1) < w.heap.size := Nat.lt_of_lt_of_le (hR.lt (k + 1)) hn
  have HR := Lib.hid hR
  generalize onP (cy L j) (cy L (j + 1)) (cy L k) = b1 at *
  generalize onP (cy L j) (cy L (j + 1)) (cy L (k + 1)) = b2 at *
  generalize onP (cy L k) (cy L (k + 1)) (cy L j) = b3 at *
  generalize onP (cy L k) (cy L (k + 1)) (cy L (j + 1)) = b4 at *
  generalize parts (cy L j) (cy L (j + 1)) (cy L k) (cy L (k + 1)) = b5 at *
  generalize parts (cy L k) (cy L (k + 1)) (cy L j) (cy L (j + 1)) = b6 at *
  clear hR hv hm hm2
  go_enter Try.func124, Try.ntmps124
  cases b1 <;> cases b2 <;> cases b3 <;> cases b4 <;> cases b5
  all_goals go_wp2_with (first | ((go_at_call 108; (with_reducible refine ((c1 _ ?_ ?_).out).mono ?_); (focus ((exact HR.out.below ((show Below w.heap.size w _ from (by repeat (first | assumption | exact Below.refl _ _ | (refine below_chain ?_ (by assumption) (by first | omega | (simp <;> omega) | simp)) | (refine Below.alloc ?_ (by first | omega | (simp <;> omega) | simp) _) | (apply below_drewN) | (apply below_drew) | (refine Below.setCell ?_ (by first | omega | (simp <;> omega) | simp) _)))).mono hn)); done)); (focus ((omega); done)); rintro e wa ⟨rfl, hb_wa⟩; have hs_wa := hb_wa.size; (try simp at hs_wa)); obtain ⟨hc_wa, hf_wa⟩ := bcell hb_wa; (have q1_wa : A j < wa.heap.size := by omega); (have q2_wa : A (j + 1) < wa.heap.size := by omega); (have q3_wa : A k < wa.heap.size := by omega); (have q4_wa : A (k + 1) < wa.heap.size := by omega)) | ((go_at_call 108; (with_reducible refine ((c2 _ ?_ ?_).out).mono ?_); (focus ((exact HR.out.below ((show Below w.heap.size w _ from (by repeat (first | assumption | exact Below.refl _ _ | (refine below_chain ?_ (by assumption) (by first | omega | (simp <;> omega) | simp)) | (refine Below.alloc ?_ (by first | omega | (simp <;> omega) | simp) _) | (apply below_drewN) | (apply below_drew) | (refine Below.setCell ?_ (by first | omega | (simp <;> omega) | simp) _)))).mono hn)); done)); (focus ((omega); done)); rintro e wb ⟨rfl, hb_wb⟩; have hs_wb := hb_wb.size; (try simp at hs_wb)); obtain ⟨hc_wb, hf_wb⟩ := bcell hb_wb; (have q1_wb : A j < wb.heap.size := by omega); (have q2_wb : A (j + 1) < wb.heap.size := by omega); (have q3_wb : A k < wb.heap.size := by omega); (have q4_wb : A (k + 1) < wb.heap.size := by omega)) | ((go_at_call 108; (with_reducible refine ((c3 _ ?_ ?_).out).mono ?_); (focus ((exact HR.out.below ((show Below w.heap.size w _ from (by repeat (first | assumption | exact Below.refl _ _ | (refine below_chain ?_ (by assumption) (by first | omega | (simp <;> omega) | simp)) | (refine Below.alloc ?_ (by first | omega | (simp <;> omega) | simp) _) | (apply below_drewN) | (apply below_drew) | (refine Below.setCell ?_ (by first | omega | (simp <;> omega) | simp) _)))).mono hn)); done)); (focus ((omega); done)); rintro e wc ⟨rfl, hb_wc⟩; have hs_wc := hb_wc.size; (try simp at hs_wc)); obtain ⟨hc_wc, hf_wc⟩ := bcell hb_wc; (have q1_wc : A j < wc.heap.size := by omega); (have q2_wc : A (j + 1) < wc.heap.size := by omega); (have q3_wc : A k < wc.heap.size := by omega); (have q4_wc : A (k + 1) < wc.heap.size := by omega)) | ((go_at_call 108; (with_reducible refine ((c4 _ ?_ ?_).out).mono ?_); (focus ((exact HR.out.below ((show Below w.heap.size w _ from (by repeat (first | assumption | exact Below.refl _ _ | (refine below_chain ?_ (by assumption) (by first | omega | (simp <;> omega) | simp)) | (refine Below.alloc ?_ (by first | omega | (simp <;> omega) | simp) _) | (apply below_drewN) | (apply below_drew) | (refine Below.setCell ?_ (by first | omega | (simp <;> omega) | simp) _)))).mono hn)); done)); (focus ((omega); done)); rintro e wd ⟨rfl, hb_wd⟩; have hs_wd := hb_wd.size; (try simp at hs_wd)); obtain ⟨hc_wd, hf_wd⟩ := bcell hb_wd; (have q1_wd : A j < wd.heap.size := by omega); (have q2_wd : A (j + 1) < wd.heap.size := by omega); (have q3_wd : A k < wd.heap.size := by omega); (have q4_wd : A (k + 1) < wd.heap.size := by omega)) | ((go_at_call 126; (with_reducible refine ((c5 _ ?_ ?_).out).mono ?_); (focus ((exact HR.out.below ((show Below w.heap.size w _ from (by repeat (first | assumption | exact Below.refl _ _ | (refine below_chain ?_ (by assumption) (by first | omega | (simp <;> omega) | simp)) | (refine Below.alloc ?_ (by first | omega | (simp <;> omega) | simp) _) | (apply below_drewN) | (apply below_drew) | (refine Below.setCell ?_ (by first | omega | (simp <;> omega) | simp) _)))).mono hn)); done)); (focus ((omega); done)); rintro e we ⟨rfl, hb_we⟩; have hs_we := hb_we.size; (try simp at hs_we)); obtain ⟨hc_we, hf_we⟩ := bcell hb_we; (have q1_we : A j < we.heap.size := by omega); (have q2_we : A (j + 1) < we.heap.size := by omega); (have q3_we : A k < we.heap.size := by omega); (have q4_we : A (k + 1) < we.heap.size := by omega)) | ((go_at_call 126; (with_reducible refine ((c6 _ ?_ ?_).out).mono ?_); (focus ((exact HR.out.below ((show Below w.heap.size w _ from (by repeat (first | assumption | exact Below.refl _ _ | (refine below_chain ?_ (by assumption) (by first | omega | (simp <;> omega) | simp)) | (refine Below.alloc ?_ (by first | omega | (simp <;> omega) | simp) _) | (apply below_drewN) | (apply below_drew) | (refine Below.setCell ?_ (by first | omega | (simp <;> omega) | simp) _)))).mono hn)); done)); (focus ((omega); done)); rintro e wf ⟨rfl, hb_wf⟩; have hs_wf := hb_wf.size; (try simp at hs_wf)); obtain ⟨hc_wf, hf_wf⟩ := bcell hb_wf; (have q1_wf : A j < wf.heap.size := by omega); (have q2_wf : A (j + 1) < wf.heap.size := by omega); (have q3_wf : A k < wf.heap.size := by omega); (have q4_wf : A (k + 1) < wf.heap.size := by omega)))
  all_goals go_ret
  all_goals exact ⟨rfl, (by repeat (first | assumption | exact Below.refl _ _ | (refine below_chain ?_ (by assumption) (by first | omega | (simp <;> omega) | simp)) | (refine Below.alloc ?_ (by first | omega | (simp <;> omega) | simp) _) | (apply below_drewN) | (apply below_drew) | (refine Below.setCell ?_ (by first | omega | (simp <;> omega) | simp) _)))⟩
theorem iClash (hB : RingB n₀ A L w) (hn : n₀ ≤ w.heap.size) (hv : ∀ i, pvP (cy L i) = true) (hl : 3 ≤ L.length) {j k : Nat} (hjk : j < k) (hk : k < L.length) :
    Calls Try.prog 118 #[.pointer (some ⟨A j, 0, none⟩), .pointer (some ⟨A k, 0, none⟩)] w fun e w' => e = .returned (.bool (clash L j k)) ∧ Below w.heap.size w w' := by
  have hR := hB.ring
  have c1 := fun w h1 h2 => Lib.hid (iFolds (A := A) (L := L) (n₀ := n₀) (w := w) h1 h2 hv j)
  have c2 := fun w h1 h2 => Lib.hid (iFolds (A := A) (L := L) (n₀ := n₀) (w := w) h1 h2 hv k)
  have c3 := fun w h1 h2 => Lib.hid (iMeets (A := A) (L := L) (n₀ := n₀) (w := w) h1 h2 hv j k)
  have f1 := fun b => hB.eql (j + 1) k (b := b)
  have f2 := fun b => hB.eql (k + 1) j (b := b)
  rw [Nat.mod_eq_of_lt (show j + 1 < L.length by omega), Nat.mod_eq_of_lt hk] at f1
  rw [Nat.mod_eq_of_lt (show j < L.length by omega)] at f2
  obtain ⟨x0, x1, x2⟩ := hR.cells j
  obtain ⟨y0, y1, y2⟩ := hR.cells k
  have l1 : A j < w.heap.size := Nat.lt_of_lt_of_le (hR.lt j) hn
  have l2 : A k < w.heap.size := Nat.lt_of_lt_of_le (hR.lt k) hn
  have HR := Lib.hid hR
  by_cases h1 : k = j + 1
  · have hA := f1 true (decide_eq_true h1.symm)
    have hc : clash L j k = foldsP L j := by unfold clash foldsP; rw [if_pos h1, h1]
    rw [hc]
    clear hR hB hv f1 f2 hc h1
    go_enter Try.func118, Try.ntmps118
    go_wp2_with ((go_at_call 123; (with_reducible refine ((c1 _ ?_ ?_).out).mono ?_); (focus ((exact HR.out.below ((show Below w.heap.size w _ from (by repeat (first | assumption | exact Below.refl _ _ | (refine below_chain ?_ (by assumption) (by first | omega | (simp <;> omega) | simp)) | (refine Below.alloc ?_ (by first | omega | (simp <;> omega) | simp) _) | (apply below_drewN) | (apply below_drew) | (refine Below.setCell ?_ (by first | omega | (simp <;> omega) | simp) _)))).mono hn)); done)); (focus ((omega); done)); rintro e wa ⟨rfl, hb_wa⟩; have hs_wa := hb_wa.size; (try simp at hs_wa)))
    go_ret
    exact ⟨rfl, (by repeat (first | assumption | exact Below.refl _ _ | (refine below_chain ?_ (by assumption) (by first | omega | (simp <;> omega) | simp)) | (refine Below.alloc ?_ (by first | omega | (simp <;> omega) | simp) _) | (apply below_drewN) | (apply below_drew) | (refine Below.setCell ?_ (by first | omega | (simp <;> omega) | simp) _)))⟩
  · have hA := f1 false (decide_eq_false (fun h => h1 h.symm))
    by_cases h2 : (k + 1) % L.length = j
    · have hB' := f2 true (decide_eq_true h2)
      have hc : clash L j k = foldsP L k := by
        have q1 : cy L j = cy L (k + 1) := by rw [← h2, cy_mod]
        have q2 : cy L (j + 1) = cy L (k + 2) := by rw [← h2]; unfold cy; rw [Nat.mod_add_mod]
        unfold clash foldsP; rw [if_neg h1, if_pos h2, q1, q2]
      rw [hc]
      clear hR hB hv f1 f2 hc h1 h2
      go_enter Try.func118, Try.ntmps118
      go_wp2_with ((go_at_call 123; (with_reducible refine ((c2 _ ?_ ?_).out).mono ?_); (focus ((exact HR.out.below ((show Below w.heap.size w _ from (by repeat (first | assumption | exact Below.refl _ _ | (refine below_chain ?_ (by assumption) (by first | omega | (simp <;> omega) | simp)) | (refine Below.alloc ?_ (by first | omega | (simp <;> omega) | simp) _) | (apply below_drewN) | (apply below_drew) | (refine Below.setCell ?_ (by first | omega | (simp <;> omega) | simp) _)))).mono hn)); done)); (focus ((omega); done)); rintro e wa ⟨rfl, hb_wa⟩; have hs_wa := hb_wa.size; (try simp at hs_wa)))
      go_ret
      exact ⟨rfl, (by repeat (first | assumption | exact Below.refl _ _ | (refine below_chain ?_ (by assumption) (by first | omega | (simp <;> omega) | simp)) | (refine Below.alloc ?_ (by first | omega | (simp <;> omega) | simp) _) | (apply below_drewN) | (apply below_drew) | (refine Below.setCell ?_ (by first | omega | (simp <;> omega) | simp) _)))⟩
    · have hB' := f2 false (decide_eq_false h2)
      have hc : clash L j k = meet (cy L j) (cy L (j + 1)) (cy L k) (cy L (k + 1)) := by unfold clash; rw [if_neg h1, if_neg h2]
      rw [hc]
      clear hR hB hv f1 f2 hc h1 h2
      go_enter Try.func118, Try.ntmps118
      go_wp2_with ((go_at_call 124; (with_reducible refine ((c3 _ ?_ ?_).out).mono ?_); (focus ((exact HR.out.below ((show Below w.heap.size w _ from (by repeat (first | assumption | exact Below.refl _ _ | (refine below_chain ?_ (by assumption) (by first | omega | (simp <;> omega) | simp)) | (refine Below.alloc ?_ (by first | omega | (simp <;> omega) | simp) _) | (apply below_drewN) | (apply below_drew) | (refine Below.setCell ?_ (by first | omega | (simp <;> omega) | simp) _)))).mono hn)); done)); (focus ((omega); done)); rintro e wa ⟨rfl, hb_wa⟩; have hs_wa := hb_wa.size; (try simp at hs_wa)))
      go_ret
      exact ⟨rfl, (by repeat (first | assumption | exact Below.refl _ _ | (refine below_chain ?_ (by assumption) (by first | omega | (simp <;> omega) | simp)) | (refine Below.alloc ?_ (by first | omega | (simp <;> omega) | simp) _) | (apply below_drewN) | (apply below_drew) | (refine Below.setCell ?_ (by first | omega | (simp <;> omega) | simp) _)))⟩
theorem sd_pos {a b p : P2} : decide (0 < sd a b p) = decide (0 < crs a b p) := by unfold sd sgn; apply decide_eq_decide.2; split <;> (try split) <;> omega
theorem sd_neg {a b p : P2} : decide (sd a b p < 0) = decide (crs a b p < 0) := by unfold sd sgn; apply decide_eq_decide.2; split <;> (try split) <;> omega
theorem iEast (hR : Ring n₀ A L w) (hn : n₀ ≤ w.heap.size) (hv : ∀ i, pvP (cy L i) = true) (k : Nat) {p : P2} (hp : pvP p = true) :
    Calls Try.prog 109 #[.pointer (some ⟨A k, 0, none⟩), .agg #[.int .i64 p.1, .int .i64 p.2]] w fun e w' => e = .returned (.bool (east (cy L k) (cy L (k + 1)) p)) ∧ Below w.heap.size w w' := by
  have c1 := fun w h1 h2 => Lib.hid (iTurn (A := A) (L := L) (n₀ := n₀) (w := w) h1 h2 hv k hp)
  obtain ⟨x0, x1, x2⟩ := hR.cells k
  obtain ⟨y0, y1, y2⟩ := hR.cells (k + 1)
  have l1 : A k < w.heap.size := Nat.lt_of_lt_of_le (hR.lt k) hn
  have l2 : A (k + 1) < w.heap.size := Nat.lt_of_lt_of_le (hR.lt (k + 1)) hn
  have HR := Lib.hid hR
  obtain ⟨px, py⟩ := p
  clear hR hv hp
  dsimp only
  by_cases h1 : (cy L k).2 ≤ py ∧ py < (cy L (k + 1)).2
  · have he : east (cy L k) (cy L (k + 1)) (px, py) = decide (0 < sd (cy L k) (cy L (k + 1)) (px, py)) := by unfold east; rw [if_pos h1, sd_pos]
    rw [he]
    obtain ⟨h1, h2⟩ := h1
    clear he
    go_enter Try.func109, Try.ntmps109
    go_upto_region 1 with fail
    (refine wp_region_grows (by kernel_rfl) (by kernel_rfl) ?_; intro W_wg hWc_wg hWs_wg hWe_wg; (repeat (go_big_quiet_step (fail))); with_reducible refine wpQuiet_nil ?_; clear hWe_wg hWs_wg hWc_wg W_wg; intro wg hb_wg; obtain ⟨hc_wg, hf_wg⟩ := bcell hb_wg; (try simp only [World.size_drew, World.cell?_drew, World.frozen?_drew, World.heap_drewN, World.cell?_drewN, World.frozen?_drewN] at hc_wg hf_wg); have hs_wg := hb_wg.size; (try simp at hs_wg))
    go_wp2_with ((go_at_call 110; (with_reducible refine ((c1 _ ?_ ?_).out).mono ?_); (focus ((exact HR.out.below ((show Below w.heap.size w _ from (by repeat (first | assumption | exact Below.refl _ _ | (refine below_chain ?_ (by assumption) (by first | omega | (simp <;> omega) | simp)) | (refine Below.alloc ?_ (by first | omega | (simp <;> omega) | simp) _) | (apply below_drewN) | (apply below_drew) | (refine Below.setCell ?_ (by first | omega | (simp <;> omega) | simp) _)))).mono hn)); done)); (focus ((omega); done)); rintro e wa ⟨rfl, hb_wa⟩; have hs_wa := hb_wa.size; (try simp at hs_wa)))
    go_ret
    exact ⟨rfl, (by repeat (first | assumption | exact Below.refl _ _ | (refine below_chain ?_ (by assumption) (by first | omega | (simp <;> omega) | simp)) | (refine Below.alloc ?_ (by first | omega | (simp <;> omega) | simp) _) | (apply below_drewN) | (apply below_drew) | (refine Below.setCell ?_ (by first | omega | (simp <;> omega) | simp) _)))⟩
  · by_cases h2 : (cy L (k + 1)).2 ≤ py ∧ py < (cy L k).2
    · have he : east (cy L k) (cy L (k + 1)) (px, py) = decide (sd (cy L k) (cy L (k + 1)) (px, py) < 0) := by unfold east; rw [if_neg h1, if_pos h2, sd_neg]
      rw [he]
      obtain ⟨h2, h3⟩ := h2
      have h4 : ¬ (cy L k).2 ≤ py := by omega
      clear he h1
      go_enter Try.func109, Try.ntmps109
      go_upto_region 1 with fail
      (refine wp_region_grows (by kernel_rfl) (by kernel_rfl) ?_; intro W_wg hWc_wg hWs_wg hWe_wg; (repeat (go_big_quiet_step (fail))); with_reducible refine wpQuiet_nil ?_; clear hWe_wg hWs_wg hWc_wg W_wg; intro wg hb_wg; obtain ⟨hc_wg, hf_wg⟩ := bcell hb_wg; (try simp only [World.size_drew, World.cell?_drew, World.frozen?_drew, World.heap_drewN, World.cell?_drewN, World.frozen?_drewN] at hc_wg hf_wg); have hs_wg := hb_wg.size; (try simp at hs_wg))
      go_wp2_with ((go_at_call 110; (with_reducible refine ((c1 _ ?_ ?_).out).mono ?_); (focus ((exact HR.out.below ((show Below w.heap.size w _ from (by repeat (first | assumption | exact Below.refl _ _ | (refine below_chain ?_ (by assumption) (by first | omega | (simp <;> omega) | simp)) | (refine Below.alloc ?_ (by first | omega | (simp <;> omega) | simp) _) | (apply below_drewN) | (apply below_drew) | (refine Below.setCell ?_ (by first | omega | (simp <;> omega) | simp) _)))).mono hn)); done)); (focus ((omega); done)); rintro e wa ⟨rfl, hb_wa⟩; have hs_wa := hb_wa.size; (try simp at hs_wa)))
      go_ret
      exact ⟨rfl, (by repeat (first | assumption | exact Below.refl _ _ | (refine below_chain ?_ (by assumption) (by first | omega | (simp <;> omega) | simp)) | (refine Below.alloc ?_ (by first | omega | (simp <;> omega) | simp) _) | (apply below_drewN) | (apply below_drew) | (refine Below.setCell ?_ (by first | omega | (simp <;> omega) | simp) _)))⟩
    · have he : east (cy L k) (cy L (k + 1)) (px, py) = false := by unfold east; rw [if_neg h1, if_neg h2]
      rw [he]
      clear he
      go_enter Try.func109, Try.ntmps109
      go_upto_region 1 with fail
      (refine wp_region_grows (by kernel_rfl) (by kernel_rfl) ?_; intro W_wg hWc_wg hWs_wg hWe_wg; (repeat (go_big_quiet_step (fail))); with_reducible refine wpQuiet_nil ?_; clear hWe_wg hWs_wg hWc_wg W_wg; intro wg hb_wg; obtain ⟨hc_wg, hf_wg⟩ := bcell hb_wg; (try simp only [World.size_drew, World.cell?_drew, World.frozen?_drew, World.heap_drewN, World.cell?_drewN, World.frozen?_drewN] at hc_wg hf_wg); have hs_wg := hb_wg.size; (try simp at hs_wg))
      rcases (show (¬ (cy L k).2 ≤ py ∧ py < (cy L k).2 ∧ ¬ (cy L (k + 1)).2 ≤ py) ∨ ((cy L k).2 ≤ py ∧ ¬ py < (cy L (k + 1)).2 ∧ (cy L (k + 1)).2 ≤ py ∧ ¬ py < (cy L k).2) by omega) with ⟨g1, g2, g3⟩ | ⟨g1, g2, g3, g4⟩
      all_goals clear h1 h2
      all_goals go_wp2_with fail
      all_goals go_ret
      all_goals exact ⟨rfl, (by repeat (first | assumption | exact Below.refl _ _ | (refine below_chain ?_ (by assumption) (by first | omega | (simp <;> omega) | simp)) | (refine Below.alloc ?_ (by first | omega | (simp <;> omega) | simp) _) | (apply below_drewN) | (apply below_drew) | (refine Below.setCell ?_ (by first | omega | (simp <;> omega) | simp) _)))⟩
end
end Go.Proofs.Ytegcjdcinebleaa
