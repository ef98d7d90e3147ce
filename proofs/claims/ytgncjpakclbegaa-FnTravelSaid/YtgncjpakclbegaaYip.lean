/-
  What the program's methods on a corner answer: turns, what a side carries, which sides clash, what lies to the east.
  The program's iterator over the corners of a polygon: what a loop over it is given, whatever its body does with its own variables.
  A region of a loop's body, within a range over a function, that draws its order: walked by the plain laws. No function of the program is named.
  What the program's polygons answer that range over their corners: areas, points on the sides.
  What the program's polygons answer whose loops over the corners may be left early: where a point lies, convex or not.
  Where a point lies, by the program.
  Whether a polygon is simple, by the program.
  How the program makes a polygon of a list of points: the ring of its corners; which lists it refuses.
  What the program's functions on polygons answer: valid, areas, points on the sides and inside, where a point lies, convex.
  The program's list of a polygon's corners.
  The program's polygon the other way round.
-/
import Derived.Test.YtgncjpakclbegaaYra
import Derived.Test.YtgncjpakclbegaaPz
import Derived.RangeFuncFrom
import Derived.RangeFuncLeaves
import Derived.Shelf.Abstract
import Derived.OwnWalkIn
import Derived.TacticsInMore
import Derived.LoopNIn
import Derived.LoopIn
import Derived.Shelf.RegionOpen
import Derived.Sort.QuietThIn
import Derived.Sort.QuietTacIn
import Derived.RangeFuncCalls
import Derived.Test.YtgncjpakclbegaaZa
import Derived.OrdersIn
import Derived.TacticsIn
import Derived.Lib.SmallJoins
import Derived.Deep.Heap
import Derived.StillTail
import Derived.RegionTactic
namespace Go.Proofs.Ytgncjpakclbegaa
open Go.RowKit Poly
set_option linter.unusedVariables false

theorem three_of {a b p : P2} (ha : pvP a = true) (hb : pvP b = true) (hp : pvP p = true) : three a.1 a.2 b.1 b.2 p.1 p.2 = true := by
  unfold pvP at ha hb hp; unfold three; rw [ha, hb, hp]; rfl
theorem iSideP {a b p : P2} (ha : pvP a = true) (hb : pvP b = true) (hp : pvP p = true) (w : World) :
    Calls Try.prog 132 #[.agg #[.int .i64 a.1, .int .i64 a.2], .agg #[.int .i64 b.1, .int .i64 b.2], .agg #[.int .i64 p.1, .int .i64 p.2]] w fun e w' => e = .returned (.tuple #[.int .i64 (sd a b p), .bool true]) ∧ Below w.heap.size w w' :=
  iSide_yes a.1 a.2 b.1 b.2 p.1 p.2 _ w (three_of ha hb hp) rfl
theorem iOnP {a b p : P2} (ha : pvP a = true) (hb : pvP b = true) (hp : pvP p = true) (w : World) :
    Calls Try.prog 131 #[.agg #[.int .i64 a.1, .int .i64 a.2], .agg #[.int .i64 b.1, .int .i64 b.2], .agg #[.int .i64 p.1, .int .i64 p.2]] w fun e w' => e = .returned (.bool (onP a b p)) ∧ Below w.heap.size w w' := by
  have := iOn_any a.1 a.2 b.1 b.2 p.1 p.2 w
  unfold onV at this
  rw [three_of ha hb hp] at this
  exact this

theorem sd_bd (a b c : P2) : -1 ≤ sd a b c ∧ sd a b c ≤ 1 := by unfold sd sgn; split <;> (try split) <;> omega
theorem sd_mul (a b c d : P2) : -1 ≤ sd a b c * sd a b d ∧ sd a b c * sd a b d ≤ 1 := by
  unfold sd sgn
  split <;> split <;> (try split) <;> (try split) <;> simp
section
variable {n₀ : Nat} {A : Nat → Nat} {L : List P2} {w : World}
/-- the cells of a corner and of the next one -/
theorem Ring.cells (h : Ring n₀ A L w) (k : Nat) : w.cell? ⟨A k, 0, none⟩ = some (.int .i64 (cy L k).1) ∧ w.cell? ⟨A k, 1, none⟩ = some (.int .i64 (cy L k).2) ∧ w.cell? ⟨A k, 2, none⟩ = some (.pointer (some ⟨A (k + 1), 0, none⟩)) := h.at' k
theorem iTurn (hR : Ring n₀ A L w) (hn : n₀ ≤ w.heap.size) (hv : ∀ i, pvP (cy L i) = true) (k : Nat) {p : P2} (hp : pvP p = true) :
    Calls Try.prog 114 #[.pointer (some ⟨A k, 0, none⟩), .agg #[.int .i64 p.1, .int .i64 p.2]] w fun e w' => e = .returned (.int .i64 (sd (cy L k) (cy L (k + 1)) p)) ∧ Below w.heap.size w w' := by
  have c1 := fun w => Lib.hid (iSideP (hv k) (hv (k + 1)) hp w)
  obtain ⟨x0, x1, x2⟩ := hR.cells k
  obtain ⟨y0, y1, -⟩ := hR.cells (k + 1)
  have l1 := hR.lt k
  have l2 := hR.lt (k + 1)
  have l3 : A k < w.heap.size := by omega
  have l4 : A (k + 1) < w.heap.size := by omega
  clear hR hv hp
  go_enter Try.func114, Try.ntmps114
  go_upto_region 1 with fail
  (refine wp_region_grows (by kernel_rfl) (by kernel_rfl) ?_; intro W_wg hWc_wg hWs_wg hWe_wg; (repeat (go_big_quiet_step ((go_at_call 132; with_reducible exact Ext.call ((c1 _).out))))); with_reducible refine wpQuiet_nil ?_; clear hWe_wg hWs_wg hWc_wg W_wg; intro wg hb_wg; obtain ⟨hc_wg, hf_wg⟩ := bcell hb_wg; (try simp only [World.size_drew, World.cell?_drew, World.frozen?_drew, World.heap_drewN, World.cell?_drewN, World.frozen?_drewN] at hc_wg hf_wg); have hs_wg := hb_wg.size; (try simp at hs_wg))
  go_wp2_with fail
  go_ret
  exact ⟨rfl, (by repeat (first | assumption | exact Below.refl _ _ | (refine below_chain ?_ (by assumption) (by first | omega | (simp <;> omega) | simp)) | (refine Below.alloc ?_ (by first | omega | (simp <;> omega) | simp) _) | (apply below_drewN) | (apply below_drew) | (refine Below.setCell ?_ (by first | omega | (simp <;> omega) | simp) _)))⟩
theorem iCarries (hR : Ring n₀ A L w) (hn : n₀ ≤ w.heap.size) (hv : ∀ i, pvP (cy L i) = true) (k : Nat) {p : P2} (hp : pvP p = true) :
    Calls Try.prog 112 #[.pointer (some ⟨A k, 0, none⟩), .agg #[.int .i64 p.1, .int .i64 p.2]] w fun e w' => e = .returned (.bool (onP (cy L k) (cy L (k + 1)) p)) ∧ Below w.heap.size w w' := by
  have c1 := fun w => Lib.hid (iOnP (hv k) (hv (k + 1)) hp w)
  obtain ⟨x0, x1, x2⟩ := hR.cells k
  obtain ⟨y0, y1, -⟩ := hR.cells (k + 1)
  have l1 := hR.lt k
  have l2 := hR.lt (k + 1)
  have l3 : A k < w.heap.size := by omega
  have l4 : A (k + 1) < w.heap.size := by omega
  clear hR hv hp
  go_enter Try.func112, Try.ntmps112
  go_upto_region 1 with fail
  (refine wp_region_grows (by kernel_rfl) (by kernel_rfl) ?_; intro W_wg hWc_wg hWs_wg hWe_wg; (repeat (go_big_quiet_step ((go_at_call 131; with_reducible exact Ext.call ((c1 _).out))))); with_reducible refine wpQuiet_nil ?_; clear hWe_wg hWs_wg hWc_wg W_wg; intro wg hb_wg; obtain ⟨hc_wg, hf_wg⟩ := bcell hb_wg; (try simp only [World.size_drew, World.cell?_drew, World.frozen?_drew, World.heap_drewN, World.cell?_drewN, World.frozen?_drewN] at hc_wg hf_wg); have hs_wg := hb_wg.size; (try simp at hs_wg))
  go_wp2_with fail
  go_ret
  exact ⟨rfl, (by repeat (first | assumption | exact Below.refl _ _ | (refine below_chain ?_ (by assumption) (by first | omega | (simp <;> omega) | simp)) | (refine Below.alloc ?_ (by first | omega | (simp <;> omega) | simp) _) | (apply below_drewN) | (apply below_drew) | (refine Below.setCell ?_ (by first | omega | (simp <;> omega) | simp) _)))⟩
theorem iCarries_is (hR : Ring n₀ A L w) (hn : n₀ ≤ w.heap.size) (hv : ∀ i, pvP (cy L i) = true) (k : Nat) {p : P2} (hp : pvP p = true) {b : Bool} (hb : onP (cy L k) (cy L (k + 1)) p = b) :
    Calls Try.prog 112 #[.pointer (some ⟨A k, 0, none⟩), .agg #[.int .i64 p.1, .int .i64 p.2]] w fun e w' => e = .returned (.bool b) ∧ Below w.heap.size w w' := by
  rw [← hb]; exact iCarries hR hn hv k hp
/-- whether a side and the next one fold back -/
def foldsP (L : List P2) (k : Nat) : Bool := onP (cy L k) (cy L (k + 1)) (cy L (k + 2)) || onP (cy L (k + 1)) (cy L (k + 2)) (cy L k)
theorem iFolds (hR : Ring n₀ A L w) (hn : n₀ ≤ w.heap.size) (hv : ∀ i, pvP (cy L i) = true) (k : Nat) :
    Calls Try.prog 140 #[.pointer (some ⟨A k, 0, none⟩)] w fun e w' => e = .returned (.bool (foldsP L k)) ∧ Below w.heap.size w w' := by
  unfold foldsP
  obtain ⟨b1, h1⟩ : ∃ b, onP (cy L k) (cy L (k + 1)) (cy L (k + 2)) = b := ⟨_, rfl⟩
  obtain ⟨b2, h2⟩ : ∃ b, onP (cy L (k + 1)) (cy L (k + 2)) (cy L k) = b := ⟨_, rfl⟩
  rw [h1, h2]
  have c1 := fun (W : World) (hc : ∀ b o, W.cell? ⟨b, o, none⟩ = w.cell? ⟨b, o, none⟩) (hs : W.heap.size = w.heap.size) (d : Ext W) => Lib.hid (iCarries_is (hR.ext hn hc hs d).1 (hR.ext hn hc hs d).2 hv k (hv (k + 2)) h1)
  have c2 := fun (W : World) (hc : ∀ b o, W.cell? ⟨b, o, none⟩ = w.cell? ⟨b, o, none⟩) (hs : W.heap.size = w.heap.size) (d : Ext W) => Lib.hid (iCarries_is (hR.ext hn hc hs d).1 (hR.ext hn hc hs d).2 hv (k + 1) (hv k) h2)
  obtain ⟨x0, x1, x2⟩ := hR.cells k
  obtain ⟨y0, y1, y2⟩ := hR.cells (k + 1)
  obtain ⟨z0, z1, z2⟩ := hR.cells (k + 2)
  have l1 := hR.lt k
  have l2 := hR.lt (k + 1)
  have l3 := hR.lt (k + 2)
  have l4 : A k < w.heap.size := by omega
  have l5 : A (k + 1) < w.heap.size := by omega
  have l6 : A (k + 2) < w.heap.size := by omega
  clear hR hv h1 h2
  go_enter Try.func140, Try.ntmps140
  go_upto_region 1 with fail
  cases b1
  · (refine wp_region_grows (by kernel_rfl) (by kernel_rfl) ?_; intro W_wg hWc_wg hWs_wg hWe_wg; (repeat (go_big_quiet_step ((first | (go_at_call 112; with_reducible exact Ext.call ((c1 _ hWc_wg hWs_wg _).out)) | (go_at_call 112; with_reducible exact Ext.call ((c2 _ hWc_wg hWs_wg _).out)))))); with_reducible refine wpQuiet_nil ?_; clear hWe_wg hWs_wg hWc_wg W_wg; intro wg hb_wg; obtain ⟨hc_wg, hf_wg⟩ := bcell hb_wg; (try simp only [World.size_drew, World.cell?_drew, World.frozen?_drew, World.heap_drewN, World.cell?_drewN, World.frozen?_drewN] at hc_wg hf_wg); have hs_wg := hb_wg.size; (try simp at hs_wg))
    go_wp2_with fail
    go_ret
    exact ⟨rfl, (by repeat (first | assumption | exact Below.refl _ _ | (refine below_chain ?_ (by assumption) (by first | omega | (simp <;> omega) | simp)) | (refine Below.alloc ?_ (by first | omega | (simp <;> omega) | simp) _) | (apply below_drewN) | (apply below_drew) | (refine Below.setCell ?_ (by first | omega | (simp <;> omega) | simp) _)))⟩
  · (refine wp_region_grows (by kernel_rfl) (by kernel_rfl) ?_; intro W_wg hWc_wg hWs_wg hWe_wg; (repeat (go_big_quiet_step ((first | (go_at_call 112; with_reducible exact Ext.call ((c1 _ hWc_wg hWs_wg _).out)) | (go_at_call 112; with_reducible exact Ext.call ((c2 _ hWc_wg hWs_wg _).out)))))); with_reducible refine wpQuiet_nil ?_; clear hWe_wg hWs_wg hWc_wg W_wg; intro wg hb_wg; obtain ⟨hc_wg, hf_wg⟩ := bcell hb_wg; (try simp only [World.size_drew, World.cell?_drew, World.frozen?_drew, World.heap_drewN, World.cell?_drewN, World.frozen?_drewN] at hc_wg hf_wg); have hs_wg := hb_wg.size; (try simp at hs_wg))
    go_wp2_with fail
    go_ret
    exact ⟨rfl, (by repeat (first | assumption | exact Below.refl _ _ | (refine below_chain ?_ (by assumption) (by first | omega | (simp <;> omega) | simp)) | (refine Below.alloc ?_ (by first | omega | (simp <;> omega) | simp) _) | (apply below_drewN) | (apply below_drew) | (refine Below.setCell ?_ (by first | omega | (simp <;> omega) | simp) _)))⟩
theorem iParts (hR : Ring n₀ A L w) (hn : n₀ ≤ w.heap.size) (hv : ∀ i, pvP (cy L i) = true) (j k : Nat) :
    Calls Try.prog 146 #[.pointer (some ⟨A j, 0, none⟩), .pointer (some ⟨A k, 0, none⟩)] w fun e w' => e = .returned (.bool (parts (cy L j) (cy L (j + 1)) (cy L k) (cy L (k + 1)))) ∧ Below w.heap.size w w' := by
  have c1 := fun (W : World) (hc : ∀ b o, W.cell? ⟨b, o, none⟩ = w.cell? ⟨b, o, none⟩) (hs : W.heap.size = w.heap.size) (d : Ext W) => Lib.hid (iTurn (hR.ext hn hc hs d).1 (hR.ext hn hc hs d).2 hv j (hv k))
  have c2 := fun (W : World) (hc : ∀ b o, W.cell? ⟨b, o, none⟩ = w.cell? ⟨b, o, none⟩) (hs : W.heap.size = w.heap.size) (d : Ext W) => Lib.hid (iTurn (hR.ext hn hc hs d).1 (hR.ext hn hc hs d).2 hv j (hv (k + 1)))
  obtain ⟨x0, x1, x2⟩ := hR.cells k
  obtain ⟨y0, y1, y2⟩ := hR.cells (k + 1)
  have l1 := hR.lt k
  have l2 := hR.lt (k + 1)
  have l4 : A k < w.heap.size := by omega
  have l5 : A (k + 1) < w.heap.size := by omega
  have hm := sd_mul (cy L j) (cy L (j + 1)) (cy L k) (cy L (k + 1))
  unfold parts
  clear hR hv
  go_enter Try.func146, Try.ntmps146
  go_upto_region 1 with fail
  (refine wp_region_grows (by kernel_rfl) (by kernel_rfl) ?_; intro W_wg hWc_wg hWs_wg hWe_wg; (repeat (go_big_quiet_step ((first | (go_at_call 114; with_reducible exact Ext.call ((c1 _ hWc_wg hWs_wg _).out)) | (go_at_call 114; with_reducible exact Ext.call ((c2 _ hWc_wg hWs_wg _).out)))))); with_reducible refine wpQuiet_nil ?_; clear hWe_wg hWs_wg hWc_wg W_wg; intro wg hb_wg; obtain ⟨hc_wg, hf_wg⟩ := bcell hb_wg; (try simp only [World.size_drew, World.cell?_drew, World.frozen?_drew, World.heap_drewN, World.cell?_drewN, World.frozen?_drewN] at hc_wg hf_wg); have hs_wg := hb_wg.size; (try simp at hs_wg))
  go_wp2_with fail
  go_ret
  exact ⟨rfl, (by repeat (first | assumption | exact Below.refl _ _ | (refine below_chain ?_ (by assumption) (by first | omega | (simp <;> omega) | simp)) | (refine Below.alloc ?_ (by first | omega | (simp <;> omega) | simp) _) | (apply below_drewN) | (apply below_drew) | (refine Below.setCell ?_ (by first | omega | (simp <;> omega) | simp) _)))⟩
set_option maxHeartbeats 4000000 in
theorem iMeets (hR : Ring n₀ A L w) (hn : n₀ ≤ w.heap.size) (hv : ∀ i, pvP (cy L i) = true) (j k : Nat) :
    Calls Try.prog 141 #[.pointer (some ⟨A j, 0, none⟩), .pointer (some ⟨A k, 0, none⟩)] w fun e w' => e = .returned (.bool (meet (cy L j) (cy L (j + 1)) (cy L k) (cy L (k + 1)))) ∧ Below w.heap.size w w' := by
  have hm : meet (cy L j) (cy L (j + 1)) (cy L k) (cy L (k + 1)) = (touch (cy L j) (cy L (j + 1)) (cy L k) (cy L (k + 1)) || (parts (cy L j) (cy L (j + 1)) (cy L k) (cy L (k + 1)) && parts (cy L k) (cy L (k + 1)) (cy L j) (cy L (j + 1)))) := rfl
  have hm2 : touch (cy L j) (cy L (j + 1)) (cy L k) (cy L (k + 1)) = (onP (cy L j) (cy L (j + 1)) (cy L k) || onP (cy L j) (cy L (j + 1)) (cy L (k + 1)) || onP (cy L k) (cy L (k + 1)) (cy L j) || onP (cy L k) (cy L (k + 1)) (cy L (j + 1))) := rfl
  rw [hm2] at hm
  rw [hm]
  have c1 := fun w h1 h2 => Lib.hid (iCarries (A := A) (L := L) (n₀ := n₀) (w := w) h1 h2 hv j (hv k))
  have c2 := fun w h1 h2 => Lib.hid (iCarries (A := A) (L := L) (n₀ := n₀) (w := w) h1 h2 hv j (hv (k + 1)))
  have c3 := fun w h1 h2 => Lib.hid (iCarries (A := A) (L := L) (n₀ := n₀) (w := w) h1 h2 hv k (hv j))
  have c4 := fun w h1 h2 => Lib.hid (iCarries (A := A) (L := L) (n₀ := n₀) (w := w) h1 h2 hv k (hv (j + 1)))
  have c5 := fun w h1 h2 => Lib.hid (iParts (A := A) (L := L) (n₀ := n₀) (w := w) h1 h2 hv j k)
  have c6 := fun w h1 h2 => Lib.hid (iParts (A := A) (L := L) (n₀ := n₀) (w := w) h1 h2 hv k j)
  obtain ⟨x0, x1, x2⟩ := hR.cells j
  obtain ⟨y0, y1, y2⟩ := hR.cells (j + 1)
  obtain ⟨z0, z1, z2⟩ := hR.cells k
  obtain ⟨t0, t1, t2⟩ := hR.cells (k + 1)
  have l1 : A j < w.heap.size := Nat.lt_of_lt_of_le (hR.lt j) hn
  have l2 : A (j + 1) < w.heap.size := Nat.lt_of_lt_of_le (hR.lt (j + 1)) hn
  have l3 : A k < w.heap.size := Nat.lt_of_lt_of_le (hR.lt k) hn
  have l4 : A (k + 1) < w.heap.size := Nat.lt_of_lt_of_le (hR.lt (k + 1)) hn
  have HR := Lib.hid hR
  generalize onP (cy L j) (cy L (j + 1)) (cy L k) = b1 at *
  generalize onP (cy L j) (cy L (j + 1)) (cy L (k + 1)) = b2 at *
  generalize onP (cy L k) (cy L (k + 1)) (cy L j) = b3 at *
  generalize onP (cy L k) (cy L (k + 1)) (cy L (j + 1)) = b4 at *
  generalize parts (cy L j) (cy L (j + 1)) (cy L k) (cy L (k + 1)) = b5 at *
  generalize parts (cy L k) (cy L (k + 1)) (cy L j) (cy L (j + 1)) = b6 at *
  clear hR hv hm hm2
  go_enter Try.func141, Try.ntmps141
  cases b1 <;> cases b2 <;> cases b3 <;> cases b4 <;> cases b5
  all_goals go_wp2_with (first | ((go_at_call 112; (with_reducible refine ((c1 _ ?_ ?_).out).mono ?_); (focus ((exact HR.out.below ((show Below w.heap.size w _ from (by repeat (first | assumption | exact Below.refl _ _ | (refine below_chain ?_ (by assumption) (by first | omega | (simp <;> omega) | simp)) | (refine Below.alloc ?_ (by first | omega | (simp <;> omega) | simp) _) | (apply below_drewN) | (apply below_drew) | (refine Below.setCell ?_ (by first | omega | (simp <;> omega) | simp) _)))).mono hn)); done)); (focus ((omega); done)); rintro e wa ⟨rfl, hb_wa⟩; have hs_wa := hb_wa.size; (try simp at hs_wa)); obtain ⟨hc_wa, hf_wa⟩ := bcell hb_wa; (have q1_wa : A j < wa.heap.size := by omega); (have q2_wa : A (j + 1) < wa.heap.size := by omega); (have q3_wa : A k < wa.heap.size := by omega); (have q4_wa : A (k + 1) < wa.heap.size := by omega)) | ((go_at_call 112; (with_reducible refine ((c2 _ ?_ ?_).out).mono ?_); (focus ((exact HR.out.below ((show Below w.heap.size w _ from (by repeat (first | assumption | exact Below.refl _ _ | (refine below_chain ?_ (by assumption) (by first | omega | (simp <;> omega) | simp)) | (refine Below.alloc ?_ (by first | omega | (simp <;> omega) | simp) _) | (apply below_drewN) | (apply below_drew) | (refine Below.setCell ?_ (by first | omega | (simp <;> omega) | simp) _)))).mono hn)); done)); (focus ((omega); done)); rintro e wb ⟨rfl, hb_wb⟩; have hs_wb := hb_wb.size; (try simp at hs_wb)); obtain ⟨hc_wb, hf_wb⟩ := bcell hb_wb; (have q1_wb : A j < wb.heap.size := by omega); (have q2_wb : A (j + 1) < wb.heap.size := by omega); (have q3_wb : A k < wb.heap.size := by omega); (have q4_wb : A (k + 1) < wb.heap.size := by omega)) | ((go_at_call 112; (with_reducible refine ((c3 _ ?_ ?_).out).mono ?_); (focus ((exact HR.out.below ((show Below w.heap.size w _ from (by repeat (first | assumption | exact Below.refl _ _ | (refine below_chain ?_ (by assumption) (by first | omega | (simp <;> omega) | simp)) | (refine Below.alloc ?_ (by first | omega | (simp <;> omega) | simp) _) | (apply below_drewN) | (apply below_drew) | (refine Below.setCell ?_ (by first | omega | (simp <;> omega) | simp) _)))).mono hn)); done)); (focus ((omega); done)); rintro e wc ⟨rfl, hb_wc⟩; have hs_wc := hb_wc.size; (try simp at hs_wc)); obtain ⟨hc_wc, hf_wc⟩ := bcell hb_wc; (have q1_wc : A j < wc.heap.size := by omega); (have q2_wc : A (j + 1) < wc.heap.size := by omega); (have q3_wc : A k < wc.heap.size := by omega); (have q4_wc : A (k + 1) < wc.heap.size := by omega)) | ((go_at_call 112; (with_reducible refine ((c4 _ ?_ ?_).out).mono ?_); (focus ((exact HR.out.below ((show Below w.heap.size w _ from (by repeat (first | assumption | exact Below.refl _ _ | (refine below_chain ?_ (by assumption) (by first | omega | (simp <;> omega) | simp)) | (refine Below.alloc ?_ (by first | omega | (simp <;> omega) | simp) _) | (apply below_drewN) | (apply below_drew) | (refine Below.setCell ?_ (by first | omega | (simp <;> omega) | simp) _)))).mono hn)); done)); (focus ((omega); done)); rintro e wd ⟨rfl, hb_wd⟩; have hs_wd := hb_wd.size; (try simp at hs_wd)); obtain ⟨hc_wd, hf_wd⟩ := bcell hb_wd; (have q1_wd : A j < wd.heap.size := by omega); (have q2_wd : A (j + 1) < wd.heap.size := by omega); (have q3_wd : A k < wd.heap.size := by omega); (have q4_wd : A (k + 1) < wd.heap.size := by omega)) | ((go_at_call 146; (with_reducible refine ((c5 _ ?_ ?_).out).mono ?_); (focus ((exact HR.out.below ((show Below w.heap.size w _ from (by repeat (first | assumption | exact Below.refl _ _ | (refine below_chain ?_ (by assumption) (by first | omega | (simp <;> omega) | simp)) | (refine Below.alloc ?_ (by first | omega | (simp <;> omega) | simp) _) | (apply below_drewN) | (apply below_drew) | (refine Below.setCell ?_ (by first | omega | (simp <;> omega) | simp) _)))).mono hn)); done)); (focus ((omega); done)); rintro e we ⟨rfl, hb_we⟩; have hs_we := hb_we.size; (try simp at hs_we)); obtain ⟨hc_we, hf_we⟩ := bcell hb_we; (have q1_we : A j < we.heap.size := by omega); (have q2_we : A (j + 1) < we.heap.size := by omega); (have q3_we : A k < we.heap.size := by omega); (have q4_we : A (k + 1) < we.heap.size := by omega)) | ((go_at_call 146; (with_reducible refine ((c6 _ ?_ ?_).out).mono ?_); (focus ((exact HR.out.below ((show Below w.heap.size w _ from (by repeat (first | assumption | exact Below.refl _ _ | (refine below_chain ?_ (by assumption) (by first | omega | (simp <;> omega) | simp)) | (refine Below.alloc ?_ (by first | omega | (simp <;> omega) | simp) _) | (apply below_drewN) | (apply below_drew) | (refine Below.setCell ?_ (by first | omega | (simp <;> omega) | simp) _)))).mono hn)); done)); (focus ((omega); done)); rintro e wf ⟨rfl, hb_wf⟩; have hs_wf := hb_wf.size; (try simp at hs_wf)); obtain ⟨hc_wf, hf_wf⟩ := bcell hb_wf; (have q1_wf : A j < wf.heap.size := by omega); (have q2_wf : A (j + 1) < wf.heap.size := by omega); (have q3_wf : A k < wf.heap.size := by omega); (have q4_wf : A (k + 1) < wf.heap.size := by omega)))
  all_goals go_ret
  all_goals exact ⟨rfl, (by repeat (first | assumption | exact Below.refl _ _ | (refine below_chain ?_ (by assumption) (by first | omega | (simp <;> omega) | simp)) | (refine Below.alloc ?_ (by first | omega | (simp <;> omega) | simp) _) | (apply below_drewN) | (apply below_drew) | (refine Below.setCell ?_ (by first | omega | (simp <;> omega) | simp) _)))⟩
theorem iClash (hB : RingB n₀ A L w) (hn : n₀ ≤ w.heap.size) (hv : ∀ i, pvP (cy L i) = true) (hl : 3 ≤ L.length) {j k : Nat} (hjk : j < k) (hk : k < L.length) :
    Calls Try.prog 126 #[.pointer (some ⟨A j, 0, none⟩), .pointer (some ⟨A k, 0, none⟩)] w fun e w' => e = .returned (.bool (clash L j k)) ∧ Below w.heap.size w w' := by
  have hR := hB.ring
  have c1 := fun w h1 h2 => Lib.hid (iFolds (A := A) (L := L) (n₀ := n₀) (w := w) h1 h2 hv j)
  have c2 := fun w h1 h2 => Lib.hid (iFolds (A := A) (L := L) (n₀ := n₀) (w := w) h1 h2 hv k)
  have c3 := fun w h1 h2 => Lib.hid (iMeets (A := A) (L := L) (n₀ := n₀) (w := w) h1 h2 hv j k)
  have f1 := fun b => hB.eql (j + 1) k (b := b)
  have f2 := fun b => hB.eql (k + 1) j (b := b)
  rw [Nat.mod_eq_of_lt (show j + 1 < L.length by omega), Nat.mod_eq_of_lt hk] at f1
  rw [Nat.mod_eq_of_lt (show j < L.length by omega)] at f2
  obtain ⟨x0, x1, x2⟩ := hR.cells j
  obtain ⟨y0, y1, y2⟩ := hR.cells k
  have l1 : A j < w.heap.size := Nat.lt_of_lt_of_le (hR.lt j) hn
  have l2 : A k < w.heap.size := Nat.lt_of_lt_of_le (hR.lt k) hn
  have HR := Lib.hid hR
  by_cases h1 : k = j + 1
  · have hA := f1 true (decide_eq_true h1.symm)
    have hc : clash L j k = foldsP L j := by unfold clash foldsP; rw [if_pos h1, h1]
    rw [hc]
    clear hR hB hv f1 f2 hc h1
    go_enter Try.func126, Try.ntmps126
    go_wp2_with ((go_at_call 140; (with_reducible refine ((c1 _ ?_ ?_).out).mono ?_); (focus ((exact HR.out.below ((show Below w.heap.size w _ from (by repeat (first | assumption | exact Below.refl _ _ | (refine below_chain ?_ (by assumption) (by first | omega | (simp <;> omega) | simp)) | (refine Below.alloc ?_ (by first | omega | (simp <;> omega) | simp) _) | (apply below_drewN) | (apply below_drew) | (refine Below.setCell ?_ (by first | omega | (simp <;> omega) | simp) _)))).mono hn)); done)); (focus ((omega); done)); rintro e wa ⟨rfl, hb_wa⟩; have hs_wa := hb_wa.size; (try simp at hs_wa)))
    go_ret
    exact ⟨rfl, (by repeat (first | assumption | exact Below.refl _ _ | (refine below_chain ?_ (by assumption) (by first | omega | (simp <;> omega) | simp)) | (refine Below.alloc ?_ (by first | omega | (simp <;> omega) | simp) _) | (apply below_drewN) | (apply below_drew) | (refine Below.setCell ?_ (by first | omega | (simp <;> omega) | simp) _)))⟩
  · have hA := f1 false (decide_eq_false (fun h => h1 h.symm))
    by_cases h2 : (k + 1) % L.length = j
    · have hB' := f2 true (decide_eq_true h2)
      have hc : clash L j k = foldsP L k := by
        have q1 : cy L j = cy L (k + 1) := by rw [← h2, cy_mod]
        have q2 : cy L (j + 1) = cy L (k + 2) := by rw [← h2]; unfold cy; rw [Nat.mod_add_mod]
        unfold clash foldsP; rw [if_neg h1, if_pos h2, q1, q2]
      rw [hc]
      clear hR hB hv f1 f2 hc h1 h2
      go_enter Try.func126, Try.ntmps126
      go_wp2_with ((go_at_call 140; (with_reducible refine ((c2 _ ?_ ?_).out).mono ?_); (focus ((exact HR.out.below ((show Below w.heap.size w _ from (by repeat (first | assumption | exact Below.refl _ _ | (refine below_chain ?_ (by assumption) (by first | omega | (simp <;> omega) | simp)) | (refine Below.alloc ?_ (by first | omega | (simp <;> omega) | simp) _) | (apply below_drewN) | (apply below_drew) | (refine Below.setCell ?_ (by first | omega | (simp <;> omega) | simp) _)))).mono hn)); done)); (focus ((omega); done)); rintro e wa ⟨rfl, hb_wa⟩; have hs_wa := hb_wa.size; (try simp at hs_wa)))
      go_ret
      exact ⟨rfl, (by repeat (first | assumption | exact Below.refl _ _ | (refine below_chain ?_ (by assumption) (by first | omega | (simp <;> omega) | simp)) | (refine Below.alloc ?_ (by first | omega | (simp <;> omega) | simp) _) | (apply below_drewN) | (apply below_drew) | (refine Below.setCell ?_ (by first | omega | (simp <;> omega) | simp) _)))⟩
    · have hB' := f2 false (decide_eq_false h2)
      have hc : clash L j k = meet (cy L j) (cy L (j + 1)) (cy L k) (cy L (k + 1)) := by unfold clash; rw [if_neg h1, if_neg h2]
      rw [hc]
      clear hR hB hv f1 f2 hc h1 h2
      go_enter Try.func126, Try.ntmps126
      go_wp2_with ((go_at_call 141; (with_reducible refine ((c3 _ ?_ ?_).out).mono ?_); (focus ((exact HR.out.below ((show Below w.heap.size w _ from (by repeat (first | assumption | exact Below.refl _ _ | (refine below_chain ?_ (by assumption) (by first | omega | (simp <;> omega) | simp)) | (refine Below.alloc ?_ (by first | omega | (simp <;> omega) | simp) _) | (apply below_drewN) | (apply below_drew) | (refine Below.setCell ?_ (by first | omega | (simp <;> omega) | simp) _)))).mono hn)); done)); (focus ((omega); done)); rintro e wa ⟨rfl, hb_wa⟩; have hs_wa := hb_wa.size; (try simp at hs_wa)))
      go_ret
      exact ⟨rfl, (by repeat (first | assumption | exact Below.refl _ _ | (refine below_chain ?_ (by assumption) (by first | omega | (simp <;> omega) | simp)) | (refine Below.alloc ?_ (by first | omega | (simp <;> omega) | simp) _) | (apply below_drewN) | (apply below_drew) | (refine Below.setCell ?_ (by first | omega | (simp <;> omega) | simp) _)))⟩
theorem sd_pos {a b p : P2} : decide (0 < sd a b p) = decide (0 < crs a b p) := by unfold sd sgn; apply decide_eq_decide.2; split <;> (try split) <;> omega
theorem sd_neg {a b p : P2} : decide (sd a b p < 0) = decide (crs a b p < 0) := by unfold sd sgn; apply decide_eq_decide.2; split <;> (try split) <;> omega
theorem iEast (hR : Ring n₀ A L w) (hn : n₀ ≤ w.heap.size) (hv : ∀ i, pvP (cy L i) = true) (k : Nat) {p : P2} (hp : pvP p = true) :
    Calls Try.prog 113 #[.pointer (some ⟨A k, 0, none⟩), .agg #[.int .i64 p.1, .int .i64 p.2]] w fun e w' => e = .returned (.bool (east (cy L k) (cy L (k + 1)) p)) ∧ Below w.heap.size w w' := by
  have c1 := fun w h1 h2 => Lib.hid (iTurn (A := A) (L := L) (n₀ := n₀) (w := w) h1 h2 hv k hp)
  obtain ⟨x0, x1, x2⟩ := hR.cells k
  obtain ⟨y0, y1, y2⟩ := hR.cells (k + 1)
  have l1 : A k < w.heap.size := Nat.lt_of_lt_of_le (hR.lt k) hn
  have l2 : A (k + 1) < w.heap.size := Nat.lt_of_lt_of_le (hR.lt (k + 1)) hn
  have HR := Lib.hid hR
  obtain ⟨px, py⟩ := p
  clear hR hv hp
  dsimp only
  by_cases h1 : (cy L k).2 ≤ py ∧ py < (cy L (k + 1)).2
  · have he : east (cy L k) (cy L (k + 1)) (px, py) = decide (0 < sd (cy L k) (cy L (k + 1)) (px, py)) := by unfold east; rw [if_pos h1, sd_pos]
    rw [he]
    obtain ⟨h1, h2⟩ := h1
    clear he
    go_enter Try.func113, Try.ntmps113
    go_upto_region 1 with fail
    (refine wp_region_grows (by kernel_rfl) (by kernel_rfl) ?_; intro W_wg hWc_wg hWs_wg hWe_wg; (repeat (go_big_quiet_step (fail))); with_reducible refine wpQuiet_nil ?_; clear hWe_wg hWs_wg hWc_wg W_wg; intro wg hb_wg; obtain ⟨hc_wg, hf_wg⟩ := bcell hb_wg; (try simp only [World.size_drew, World.cell?_drew, World.frozen?_drew, World.heap_drewN, World.cell?_drewN, World.frozen?_drewN] at hc_wg hf_wg); have hs_wg := hb_wg.size; (try simp at hs_wg))
    go_wp2_with ((go_at_call 114; (with_reducible refine ((c1 _ ?_ ?_).out).mono ?_); (focus ((exact HR.out.below ((show Below w.heap.size w _ from (by repeat (first | assumption | exact Below.refl _ _ | (refine below_chain ?_ (by assumption) (by first | omega | (simp <;> omega) | simp)) | (refine Below.alloc ?_ (by first | omega | (simp <;> omega) | simp) _) | (apply below_drewN) | (apply below_drew) | (refine Below.setCell ?_ (by first | omega | (simp <;> omega) | simp) _)))).mono hn)); done)); (focus ((omega); done)); rintro e wa ⟨rfl, hb_wa⟩; have hs_wa := hb_wa.size; (try simp at hs_wa)))
    go_ret
    exact ⟨rfl, (by repeat (first | assumption | exact Below.refl _ _ | (refine below_chain ?_ (by assumption) (by first | omega | (simp <;> omega) | simp)) | (refine Below.alloc ?_ (by first | omega | (simp <;> omega) | simp) _) | (apply below_drewN) | (apply below_drew) | (refine Below.setCell ?_ (by first | omega | (simp <;> omega) | simp) _)))⟩
  · by_cases h2 : (cy L (k + 1)).2 ≤ py ∧ py < (cy L k).2
    · have he : east (cy L k) (cy L (k + 1)) (px, py) = decide (sd (cy L k) (cy L (k + 1)) (px, py) < 0) := by unfold east; rw [if_neg h1, if_pos h2, sd_neg]
      rw [he]
      obtain ⟨h2, h3⟩ := h2
      have h4 : ¬ (cy L k).2 ≤ py := by omega
      clear he h1
      go_enter Try.func113, Try.ntmps113
      go_upto_region 1 with fail
      (refine wp_region_grows (by kernel_rfl) (by kernel_rfl) ?_; intro W_wg hWc_wg hWs_wg hWe_wg; (repeat (go_big_quiet_step (fail))); with_reducible refine wpQuiet_nil ?_; clear hWe_wg hWs_wg hWc_wg W_wg; intro wg hb_wg; obtain ⟨hc_wg, hf_wg⟩ := bcell hb_wg; (try simp only [World.size_drew, World.cell?_drew, World.frozen?_drew, World.heap_drewN, World.cell?_drewN, World.frozen?_drewN] at hc_wg hf_wg); have hs_wg := hb_wg.size; (try simp at hs_wg))
      go_wp2_with ((go_at_call 114; (with_reducible refine ((c1 _ ?_ ?_).out).mono ?_); (focus ((exact HR.out.below ((show Below w.heap.size w _ from (by repeat (first | assumption | exact Below.refl _ _ | (refine below_chain ?_ (by assumption) (by first | omega | (simp <;> omega) | simp)) | (refine Below.alloc ?_ (by first | omega | (simp <;> omega) | simp) _) | (apply below_drewN) | (apply below_drew) | (refine Below.setCell ?_ (by first | omega | (simp <;> omega) | simp) _)))).mono hn)); done)); (focus ((omega); done)); rintro e wa ⟨rfl, hb_wa⟩; have hs_wa := hb_wa.size; (try simp at hs_wa)))
      go_ret
      exact ⟨rfl, (by repeat (first | assumption | exact Below.refl _ _ | (refine below_chain ?_ (by assumption) (by first | omega | (simp <;> omega) | simp)) | (refine Below.alloc ?_ (by first | omega | (simp <;> omega) | simp) _) | (apply below_drewN) | (apply below_drew) | (refine Below.setCell ?_ (by first | omega | (simp <;> omega) | simp) _)))⟩
    · have he : east (cy L k) (cy L (k + 1)) (px, py) = false := by unfold east; rw [if_neg h1, if_neg h2]
      rw [he]
      clear he
      go_enter Try.func113, Try.ntmps113
      go_upto_region 1 with fail
      (refine wp_region_grows (by kernel_rfl) (by kernel_rfl) ?_; intro W_wg hWc_wg hWs_wg hWe_wg; (repeat (go_big_quiet_step (fail))); with_reducible refine wpQuiet_nil ?_; clear hWe_wg hWs_wg hWc_wg W_wg; intro wg hb_wg; obtain ⟨hc_wg, hf_wg⟩ := bcell hb_wg; (try simp only [World.size_drew, World.cell?_drew, World.frozen?_drew, World.heap_drewN, World.cell?_drewN, World.frozen?_drewN] at hc_wg hf_wg); have hs_wg := hb_wg.size; (try simp at hs_wg))
      rcases (show (¬ (cy L k).2 ≤ py ∧ py < (cy L k).2 ∧ ¬ (cy L (k + 1)).2 ≤ py) ∨ ((cy L k).2 ≤ py ∧ ¬ py < (cy L (k + 1)).2 ∧ (cy L (k + 1)).2 ≤ py ∧ ¬ py < (cy L k).2) by omega) with ⟨g1, g2, g3⟩ | ⟨g1, g2, g3, g4⟩
      all_goals clear h1 h2
      all_goals go_wp2_with fail
      all_goals go_ret
      all_goals exact ⟨rfl, (by repeat (first | assumption | exact Below.refl _ _ | (refine below_chain ?_ (by assumption) (by first | omega | (simp <;> omega) | simp)) | (refine Below.alloc ?_ (by first | omega | (simp <;> omega) | simp) _) | (apply below_drewN) | (apply below_drew) | (refine Below.setCell ?_ (by first | omega | (simp <;> omega) | simp) _)))⟩
end
end Go.Proofs.Ytgncjpakclbegaa
namespace Go.Proofs.Ytgncjpakclbegaa
open Go.RowKit Go.Shelf
set_option linter.unusedVariables false
attribute [local go_sem] Oper.semAt_some

theorem below_put {B : Nat} (W : World) (l : Nat) (o : Obj) (h : B ≤ l) : Below B W (W.putObj l o) := ⟨rfl, rfl, rfl, by simp, fun k hk => World.putObj_heap_other (by omega)⟩
/-- what a round keeps: all that lay below m, and the box of the polygon -/
def Kp2 (m Bn : Nat) (W W' : World) : Prop := Below m W W' ∧ W'.heap[Bn]? = W.heap[Bn]?
theorem Kp2.t {m Bn : Nat} {A B C : World} (h : Kp2 m Bn A B) (k : Kp2 m Bn B C) : Kp2 m Bn A C := ⟨h.1.trans k.1, k.2.trans h.2⟩
theorem Kp2.b {m Bn : Nat} {w : World} (hm : m ≤ w.heap.size) (hB : Bn < w.heap.size) (W : World) (l : Nat) (o o' : Obj) (hl : w.heap.size ≤ l) (h : W.heap[l]? = some o) (h1 : o.isCells = false) (h2 : o.isWalk = false) : Kp2 m Bn W (W.putObj l o') :=
  ⟨belowK_b hm W l o o' hl h h1 h2, World.putObj_heap_other (by omega)⟩
theorem Kp2.of {m Bn : Nat} {W W' : World} (h : Below W.heap.size W W') (hm : m ≤ W.heap.size) (hB : Bn < W.heap.size) : Kp2 m Bn W W' := ⟨h.mono hm, h.block _ hB⟩

open Classical in
/-- how many corners are still to come -/
noncomputable def restOf (A : Nat → Nat) (n : Nat) (v : Value) : Nat :=
  if h : ∃ k, k < n ∧ v = .pointer (some ⟨A k, 0, none⟩) then n - Classical.choose h else 0
theorem restOf_eq {n₀ : Nat} {A : Nat → Nat} {L : List Poly.P2} {w : World} (h : Ring n₀ A L w) {k : Nat} (hk : k < L.length) : restOf A L.length (.pointer (some ⟨A k, 0, none⟩)) = L.length - k := by
  have hex : ∃ j, j < L.length ∧ Value.pointer (some ⟨A k, 0, none⟩) = .pointer (some ⟨A j, 0, none⟩) := ⟨k, hk, rfl⟩
  unfold restOf
  rw [dif_pos hex]
  obtain ⟨h1, h2⟩ := Classical.choose_spec hex
  have e : A k = A (Classical.choose hex) := by simpa using h2
  have := h.inj _ _ e
  rw [Nat.mod_eq_of_lt hk, Nat.mod_eq_of_lt h1] at this
  omega

theorem iCorners (a : Option Addr) (w : World) :
    Calls Try.prog 107 #[.agg #[.pointer a]] w fun e w' => e = .returned (.func (.func 127) #[] #[.pointer (some ⟨w.heap.size, 0, none⟩)]) ∧ w' = w.alloc (.cells #[.pointer a] 63) := by
  go_enter Try.func107, Try.ntmps107
  go_wp2_with fail
  go_ret
  exact ⟨rfl, rfl⟩

section
variable {F : Fence} {n : Nat} {P : Program} {ops : Array Oper} {Q : Exit → Act → World → Prop}
/-- the rest of a region that draws its order, from its k-th operation on, all of which only read: in the order of the text -/
theorem any_tail {l : List Oper} {k : Nat} {listed : Array Bool} {a : Act} {w : World} (hro : F.round = none) (hns : Region.noSelect ops = true) (hl : ops.toList.drop k = l) (hB : Region.lexFrom .any ops l.length k listed = true)
    (h : wpQuietIn F n P ops (fun w' => ∃ m, w' = w.drewN m) (fun a' => ∀ w', (∃ m, w' = w.drewN m) → Q .normal a' w') l a) : wpAnyIn F n P .any ops Q l.length listed a w :=
  wpAnyIn_of_quiet (C := fun w' => ∃ m, w' = w.drewN m) (Q := fun a' => ∀ w', (∃ m, w' = w.drewN m) → Q .normal a' w') hro (fun _ w' hw' h => h w' hw') _ _ _ _ ⟨0, rfl⟩
    (wpAnyQIn_lex hns l k listed a (fun j => by rw [← hl, List.getElem?_drop]; simp) hB h)
end
set_option maxRecDepth 100000 in
set_option maxHeartbeats 2000000 in
theorem corners_in (n : Nat) (hn : 1 ≤ n) (l Bn n₀ : Nat) (A : Nat → Nat) (L : List Poly.P2) (hl : 0 < L.length) (J Jx : List Nat → World → Prop) (hJd : ∀ s W m, J s W → J s (W.drewN m)) (hJxd : ∀ s W m, Jx s W → Jx s (W.drewN m))
    (hY : ∀ pre x W, J pre W → pre.length < L.length → YieldAt Fence.wide (n - 1) Try.prog l #[.pointer (some ⟨A x, 0, none⟩)] W fun e W' =>
      (e = .returned (.bool true) ∧ J (pre ++ [x]) W' ∧ Kp2 n₀ Bn W W') ∨ (e = .returned (.bool false) ∧ Jx (pre ++ [x]) W'))
    (W : World) (hBn : W.cell? ⟨Bn, 0, none⟩ = some (.pointer (some ⟨A 0, 0, none⟩))) (hL : RingB n₀ A L W) (h0 : J [] W) :
    CallsIn Fence.wide n Try.prog 127 #[.func (.yield l) #[] #[], .pointer (some ⟨Bn, 0, none⟩)] W fun e W' => (∃ v, e = .returned v) ∧
      ((∃ ys, ys = List.range L.length ∧ J ys W') ∨ (∃ pre, (∃ m, pre = List.range m) ∧ Jx pre W')) := by
  have HY := Lib.hid hY
  have HD := Lib.hid (And.intro hJd hJxd)
  have hmx : Try.prog.follows .mixedOrders = true := by kernel_rfl
  clear hY hJd hJxd
  refine callsIn_of_wp Try.func127 rfl trivial ?_ rfl
  simp only [Try.ntmps127, List.size_toArray, List.length_cons, List.length_nil, Nat.reduceAdd, Nat.reduceSub, Array.replicate_succ, Array.replicate_zero, List.push_toArray, List.append_toArray, List.nil_append, List.cons_append]
  gi_wp2
  gi_loopw [3] (fun p wr => ∃ k : Nat, k < L.length ∧ p = .pointer (some ⟨A k, 0, none⟩) ∧ wr.cell? ⟨Bn, 0, none⟩ = some (.pointer (some ⟨A 0, 0, none⟩)) ∧ RingB n₀ A L wr ∧ J (List.range k) wr)
    (fun p wr => restOf A L.length p)
  case atStart => exact ⟨0, hl, rfl, hBn, hL, h0⟩
  case round =>
    clear hBn hL h0
    obtain ⟨k, hk, rfl, hB, hR, hJ⟩ := hrel
    have hlt : A k < wr.heap.size := by have := hR.blk k; exact (Array.getElem?_eq_some_iff.1 this).1
    obtain ⟨fn, tmps, assign, body, hy, hround⟩ := HY.out (List.range k) k wr.drew (HD.out.1 _ _ 1 hJ) (by simpa using hk)
    have HB := Lib.hid (And.intro hB hR)
    have HJ := Lib.hid hJ
    clear hB hR hJ
    gi_wp2
    refine wpIn_region_any hmx ?_
    refine wpAnyIn_take (i := 0) (v := .func (.yield l) #[] #[]) rfl rfl (by kernel_rfl) (by kernel_rfl) (by kernel_rfl) (fun _ _ _ h => h) ⟨Or.inl ⟨by rfl, fun w => ?_⟩, fun _ => rfl⟩ ?_
    · go_simp
    refine wpAnyIn_take (i := 1) (v := .pointer (some ⟨A k, 0, none⟩)) rfl rfl (by kernel_rfl) (by kernel_rfl) (by kernel_rfl) (fun _ _ _ h => h) ⟨Or.inl ⟨by rfl, fun w => ?_⟩, fun _ => rfl⟩ ?_
    · go_simp
    refine wpAnyIn_ready (rs := [2]) (by kernel_rfl) (by simp) ?_
    refine AllReadyIn.cons rfl (fun K hK => ?_) AllReadyIn.nil
    go_simp
    refine hround.mono ?_
    rintro e W3 (⟨rfl, hJ3, hk3⟩ | ⟨rfl, hJx3⟩)
    · have hR3 : RingB n₀ A L W3 := RingB.below (w := wr.drew) ⟨HB.out.2.ring.same (fun _ _ => rfl), HB.out.2.blk⟩ hk3.1
      have hbx : W3.cell? ⟨Bn, 0, none⟩ = some (.pointer (some ⟨A 0, 0, none⟩)) := (World.cell?_of_block hk3.2).trans HB.out.1
      have hq3 : W3.cell? ⟨A k, 2, none⟩ = some (.pointer (some ⟨A (k + 1), 0, none⟩)) := (hR3.ring.at' k).2.2
      have hne := fun b (hb : decide ((k + 1) % L.length = 0 % L.length) = !b) m => RingB.neq (w := W3.drewN m) ⟨hR3.ring.same (fun _ _ => rfl), hR3.blk⟩ (k + 1) 0 hb
      rw [Nat.zero_mod] at hne
      have H3 := Lib.hid (And.intro hJ3 (And.intro hR3 hbx))
      clear hJ3 hR3 hk3
      by_cases hlast : k + 1 = L.length
      · have hne' := hne false (by rw [hlast, Nat.mod_self]; rfl)
        have HL := Lib.hid hlast
        clear hne hlast
        refine hK _ _ ?_
        clear hK K
        refine any_tail (k := 3) rfl (by kernel_rfl) rfl (by kernel_rfl) ?_
        repeat (quiet_step_in (fail))
        refine wpQuietIn_nil ?_
        rintro _ ⟨nq, rfl⟩
        gi_wp2
        go_end0
        exact ⟨⟨_, rfl⟩, .inl ⟨_, rfl, by have := HD.out.1 _ _ nq H3.out.1; rw [← List.range_succ, show k.succ = L.length from HL.out] at this; exact this⟩⟩
      · have hne' := hne true (by rw [Nat.mod_eq_of_lt (show k + 1 < L.length by omega)]; rfl)
        have HL := Lib.hid hlast
        clear hne hlast
        refine hK _ _ ?_
        clear hK K
        refine any_tail (k := 3) rfl (by kernel_rfl) rfl (by kernel_rfl) ?_
        repeat (quiet_step_in (fail))
        refine wpQuietIn_nil ?_
        rintro _ ⟨nq, rfl⟩
        gi_wp2
        have hk1 : k + 1 < L.length := by have := HL.out; omega
        go_roundw
        case rel => exact ⟨k + 1, hk1, rfl, H3.out.2.2, ⟨H3.out.2.1.ring.same (fun _ _ => rfl), H3.out.2.1.blk⟩, by have := HD.out.1 _ _ nq H3.out.1; rw [← List.range_succ] at this; exact this⟩
        case measure => rw [restOf_eq HB.out.2.ring hk1, restOf_eq HB.out.2.ring hk]; omega
    · refine hK _ _ ?_
      clear hK K
      refine any_tail (k := 3) rfl (by kernel_rfl) rfl (by kernel_rfl) ?_
      repeat (quiet_step_in (fail))
      refine wpQuietIn_nil ?_
      rintro _ ⟨nq, rfl⟩
      gi_wp2
      go_end0
      exact ⟨⟨_, rfl⟩, .inr ⟨_, ⟨k + 1, rfl⟩, by have := HD.out.2 _ _ nq hJx3; rw [← List.range_succ] at this; exact this⟩⟩
/-- what a loop over the corners is given -/
theorem corners_stops (n : Nat) (hn : 1 ≤ n) (Bn n₀ : Nat) (A : Nat → Nat) (L : List Poly.P2) (hl : 0 < L.length) (w : World) (hB : Bn < w.heap.size) (hm : n₀ ≤ w.heap.size) (hc : w.cell? ⟨Bn, 0, none⟩ = some (.pointer (some ⟨A 0, 0, none⟩))) (hL : RingB n₀ A L w) :
    SeqStopsK Fence.wide n Try.prog 127 #[.pointer (some ⟨Bn, 0, none⟩)] (fun x : Nat => #[Value.pointer (some ⟨A x, 0, none⟩)]) (Kp2 n₀ Bn) (fun ys => ys = List.range L.length) (fun pre => ∃ m, pre = List.range m) L.length w := fun l J Jx W hW hJ hJx hY h0 =>
  corners_in n hn l Bn n₀ A L hl J Jx (fun s W m h => hJ s _ _ none h ⟨rfl, rfl, rfl, Nat.le_refl _, fun _ _ _ => rfl⟩ (fun r e => by cases e)) (fun s W m h => hJx s _ _ none h ⟨rfl, rfl, rfl, Nat.le_refl _, fun _ _ _ => rfl⟩ (fun r e => by cases e)) hY W ((hW.cell (p := ⟨Bn, 0, none⟩) hB).trans hc) (hL.below (hW.mono hm)) h0
theorem RingB.own {n₀ : Nat} {A : Nat → Nat} {L : List Poly.P2} {W W' : World} {row : Option Nat} (h : RingB n₀ A L W) (hg : W.grownBy W' row) (hr : ∀ r, row = some r → ∃ o : Obj, W.heap[r]? = some o ∧ o.isCells = false) : RingB n₀ A L W' :=
  RingB.of h.ring.lt (fun k => (grownBy_keeps_cells hg hr (h.blk k) rfl).trans (h.blk k)) h.ring.per h.ring.inj
/-- what every loop over the corners holds: the ring, all that lay when the call began, and the heap's size -/
structure Hold (w : World) (n₀ : Nat) (A : Nat → Nat) (L : List Poly.P2) (m : Nat) (W : World) : Prop where
  ring : RingB n₀ A L W
  below : Below w.heap.size w W
  size : m ≤ W.heap.size
theorem Hold.own {w : World} {n₀ : Nat} {A : Nat → Nat} {L : List Poly.P2} {m : Nat} {W W' : World} {row : Option Nat} (h : Hold w n₀ A L m W) (hm : w.heap.size ≤ m) (hg : W.grownBy W' row) (hr : ∀ r, row = some r → m ≤ r ∧ ∃ o : Obj, W.heap[r]? = some o ∧ o.isCells = false) : Hold w n₀ A L m W' :=
  ⟨h.ring.own hg (fun r e => (hr r e).2), h.below.grown hg (by have := h.size; omega) (fun r e => by have := (hr r e).1; omega), Nat.le_trans h.size hg.size⟩
theorem Hold.next {w : World} {n₀ : Nat} {A : Nat → Nat} {L : List Poly.P2} {m : Nat} {W W' : World} (h : Hold w n₀ A L m W) (hn : n₀ ≤ w.heap.size) (hm : w.heap.size ≤ m) (hb : Below m W W') : Hold w n₀ A L m W' :=
  ⟨h.ring.below (hb.mono (by omega)), h.below.trans (hb.mono hm), Nat.le_trans h.size hb.size⟩
def sumL (f : Nat → Int) (pre : List Nat) : Int := pre.foldl (fun s i => s + f i) 0
theorem sumL_snoc (f : Nat → Int) (pre : List Nat) (x : Nat) : sumL f (pre ++ [x]) = sumL f pre + f x := by simp [sumL]
theorem sumL_range (f : Nat → Int) : ∀ n, sumL f (List.range n) = Poly.sumF f n
  | 0 => rfl
  | n + 1 => by rw [List.range_succ, sumL_snoc, sumL_range f n]; rfl
theorem sumL_bd {f : Nat → Int} {m : Int} (h : ∀ i, -m ≤ f i ∧ f i ≤ m) (pre : List Nat) : -(m * pre.length) ≤ sumL f pre ∧ sumL f pre ≤ m * pre.length := by
  suffices ∀ (pre : List Nat) (s : Int), s - m * pre.length ≤ pre.foldl (fun s i => s + f i) s ∧ pre.foldl (fun s i => s + f i) s ≤ s + m * pre.length by
    have := this pre 0
    unfold sumL; omega
  intro pre
  induction pre with
  | nil => intro s; simp
  | cons a l ih =>
    intro s
    have h1 := ih (s + f a)
    have h2 := h a
    have e : m * ((a :: l).length : Int) = m * l.length + m := by rw [List.length_cons, Int.natCast_add, Int.mul_add]; simp
    rw [List.foldl_cons]
    omega
theorem keeps_below {W W' : World} (h : Below W.heap.size W W') : KeepsOthers W W' := ⟨h.size, fun k o hk _ => (h.block k (Array.getElem?_eq_some_iff.1 hk).1).trans hk⟩
/-- a store into a block of the caller's own behind new memory -/
theorem Kp2.put {m Bn g o : Nat} {W W' : World} (h : Below W.heap.size W W') (hm : m ≤ W.heap.size) (hB : Bn < W.heap.size) (hg : m ≤ g) (hne : g ≠ Bn) (v : Value) : Kp2 m Bn W (W'.setCell ⟨g, o, none⟩ v) :=
  ⟨(h.mono hm).setCell (p := ⟨g, o, none⟩) hg _, (Below.heap_setCell W' ⟨g, o, none⟩ v Bn (fun e => hne e.symm)).trans (h.block _ hB)⟩
theorem Hold.put {w : World} {n₀ : Nat} {A : Nat → Nat} {L : List Poly.P2} {m g o : Nat} {W : World} (h : Hold w n₀ A L m W) (hn : n₀ ≤ w.heap.size) (hg : w.heap.size ≤ g) (v : Value) : Hold w n₀ A L m (W.setCell ⟨g, o, none⟩ v) :=
  ⟨h.ring.below ((Below.refl n₀ W).setCell (p := ⟨g, o, none⟩) (show n₀ ≤ g by omega) _), h.below.setCell (p := ⟨g, o, none⟩) hg _, by simpa using h.size⟩
def oddP (f : Nat → Bool) (pre : List Nat) : Bool := pre.foldl (fun s i => xor s (f i)) false
theorem oddP_snoc (f : Nat → Bool) (pre : List Nat) (x : Nat) : oddP f (pre ++ [x]) = xor (oddP f pre) (f x) := by simp [oddP]
theorem oddP_range (f : Nat → Bool) : ∀ n, oddP f (List.range n) = Poly.oddF f n
  | 0 => rfl
  | n + 1 => by rw [List.range_succ, oddP_snoc, oddP_range f n]; rfl
end Go.Proofs.Ytgncjpakclbegaa
namespace Go.Proofs.Ytgncjpakclbegaa
open Go.RowKit
set_option linter.unusedVariables false

section
variable {P : Program} {l n : Nat}
theorem rows_in {row : String} {args : Array Value} {w : World} {R : Value → World → Prop} (h : Go.Rows P row args w R) : RowsIn (Fence.wide.inRound l) n P row args w R :=
  fun c cs _ => let ⟨v, w', r, s⟩ := h c cs; ⟨v, w', r, stepsIn_wide.2 s⟩
theorem oper_in {o : Oper} {a : Act} {w : World} {K : Act → World → Prop} {Q : Exit → Act → World → Prop} (hd : ∀ c, o.op ≠ .defer c) (hQ : ¬ LetsOut Q) (h : o.wp P a w K Q ∨ (o.asks P a w ∧ LetsOut Q)) : o.wpIn (Fence.wide.inRound l) n P a w K Q := by
  rcases h with h | h
  · refine ⟨fun _ _ => trivial, ?_⟩
    rw [show (Fence.wide.inRound l).round = some l from rfl, Oper.semAt_some l a.eval o hd]
    unfold Oper.wp at h
    generalize (execOp a.eval o).run P w = r at h ⊢
    cases r with
    | ok x w' =>
      cases x <;> simp only [Oper.upon, Oper.uponIn] at h ⊢ <;>
        first
          | exact h
          | exact ⟨fun h => by simp [Fence.wide] at h, CallsIn.inRound l (callsIn_wide.2 h)⟩
          | exact ⟨fun h => by simp [Fence.wide] at h, rows_in h⟩
          | exact h.elim
    | halt x w' => cases x <;> simp only [Oper.upon, Oper.uponIn] at h ⊢ <;> exact h
  · exact absurd h.2 hQ
/-- no operation defers a call -/
def plainB (ops : Array Oper) : Bool := ops.all fun o => match o.op with | .defer _ => false | _ => true
theorem plain_at {ops : Array Oper} (h : plainB ops = true) {i : Nat} {o : Oper} (ho : ops[i]? = some o) : ∀ c, o.op ≠ .defer c := by
  intro c e
  obtain ⟨hi, rfl⟩ := Array.getElem?_eq_some_iff.1 ho
  have := Array.all_eq_true.1 h i hi
  rw [e] at this
  cases this
theorem any_in {ops : Array Oper} {Q : Exit → Act → World → Prop} {md : Region.Mode} (hp : plainB ops = true) (hQ : ¬ LetsOut Q) : ∀ (fuel : Nat) (listed : Array Bool) (a : Act) (w : World), wpAny P md ops Q fuel listed a w → wpAnyIn (Fence.wide.inRound l) n P md ops Q fuel listed a w
  | 0, _, _, _, h => h
  | fuel + 1, listed, a, w, h => ⟨h.1, fun i hi => by
    have h2 := h.2 i hi
    unfold wpOp at h2
    unfold wpOpIn
    cases ho : ops[i]? with
    | none => rw [ho] at h2; exact any_in hp hQ fuel _ _ _ h2
    | some o =>
      rw [ho] at h2
      dsimp only at h2 ⊢
      split
      · rename_i hw
        rw [if_pos hw] at h2
        exact Oper.wpIn_mono (fun a' w' h' => any_in hp hQ fuel _ _ _ h') (oper_in (plain_at hp ho) hQ h2)
      · rename_i hw
        rw [if_neg hw] at h2
        exact ⟨fun _ _ => trivial, any_in hp hQ fuel _ _ _ h2⟩⟩
end
section
variable {P : Program} {C : World → Prop} {ops : Array Oper}
theorem any_head {Q : Exit → Act → World → Prop} {a : Act} {w : World} {l : List Oper} (n : Nat) (hB : (backward l.toArray && guardsB l.toArray n && Region.lexB .any (l.take n).toArray && Region.lexTailB .any l.toArray n) = true)
    (hC : C w.drew)
    (h : wpQuiet P (l.take n).toArray C (fun a' => ∀ w', C w' → wpList P l.toArray Q (l.drop n) a' w') (l.take n) a) : wpAny P .any l.toArray Q l.toArray.size (Array.replicate l.toArray.size false) a w.drew := by
  rw [Bool.and_eq_true, Bool.and_eq_true, Bool.and_eq_true] at hB
  obtain ⟨⟨⟨hb, hgd⟩, hlex⟩, hT⟩ := hB
  simp only [Region.lexTailB, Bool.and_eq_true, decide_eq_true_eq] at hT
  obtain ⟨⟨⟨⟨hsel, hn⟩, hs⟩, hc⟩, hseq⟩ := hT
  simp only [Region.lexB, Bool.and_eq_true] at hlex
  have hex : (l.take n).toArray = l.toArray.extract 0 n := by simp
  have hlt : n < l.length := by simpa using hn
  have htl : (l.take n).length = n := by simp; omega
  have h0 := wpAnyQ_lex (C := C) (md := .any) hlex.1 (l.take n) 0 (Array.replicate (l.take n).toArray.size false) a (by simp) (by simpa using hlex.2) h
  rw [hex] at h0
  have hseqT : ∀ (f k : Nat) (listed : Array Bool), k + f = n → listed.size = l.toArray.size → (∀ j, j < k → listed.getD j true = true) → (∀ j, k ≤ j → j < l.toArray.size → listed.getD j true = false) →
      Region.lexHead .any l.toArray (l.toArray.size - n) f k listed = true →
      ∀ listed2 : Array Bool, listed2.size = l.toArray.size → (∀ j, j < n → listed2.getD j true = true) → (∀ j, n ≤ j → j < l.toArray.size → listed2.getD j true = false) → Region.seqB .any l.toArray (l.toArray.size - n) n listed2 = true := by
    intro f
    induction f with
    | zero =>
      intro k listed hk hsz h1 h2 hh listed2 hs2 h3 h4
      have e : k = n := by omega
      subst e
      have el : listed2 = listed := by
        apply Array.ext (by omega)
        intro i h5 h6
        have := fun (x : Array Bool) (hx : i < x.size) => (show x.getD i true = x[i] by simp [hx])
        rw [← this _ h5, ← this _ h6]
        rcases Nat.lt_or_ge i k with h7 | h7
        · rw [h3 i h7, h1 i h7]
        · rw [h4 i h7 (by omega), h2 i h7 (by omega)]
      rw [el]
      simpa [Region.lexHead] using hh
    | succ f ih =>
      intro k listed hk hsz h1 h2 hh
      simp only [Region.lexHead, Bool.and_eq_true] at hh
      refine ih (k + 1) _ (by omega) (by simpa using hsz) (fun j hj => ?_) (fun j hj hj2 => ?_) hh.2
      · by_cases e : k = j
        · subst e; exact getD_set_self _ _
        · rw [getD_set_ne true e]; exact h1 j (by omega)
      · rw [getD_set_ne true (by omega)]; exact h2 j (by omega) hj2
  have hrep : ∀ (m j : Nat), j < m → (Array.replicate m false).getD j true = false := fun m j hj => by simp [hj]
  have hun : ∀ m, m ≤ n → un (Array.replicate l.toArray.size false) m = m := by
    intro m
    induction m with
    | zero => intro _; rfl
    | succ m ih => intro hm; simp only [un]; rw [ih (by omega), hrep _ _ (by omega)]; rfl
  have H := wpAny_head (C := C) (Qh := fun a' => ∀ w', C w' → wpList P l.toArray Q (l.drop n) a' w') (Q' := Q) (g := l.toArray.size - n) hb hs hc hgd hn (fun a' w' listed hsz h1 h2 hC' hQ => by
    have := wpAny_of_seq (md := .any) (Q' := Q) (l.drop n) n listed a' w' (fun j => by simp [List.getElem?_drop]) (by
      have := hseqT n 0 _ (by omega) (by simp) (fun j hj => by omega) (fun j _ hj => hrep _ j hj) hseq listed hsz h1 h2
      simpa using this) (hQ w' hC')
    simpa using this) n (Array.replicate l.toArray.size false) (Array.replicate n false) a w.drew (by simp) (fun j hj => by rw [hrep _ _ hj, hrep _ _ (by omega)])
    ⟨by simp, fun j oj _ hl => (by rw [getD_replicate_false] at hl; cases hl), fun t _ ht => hrep _ t ht⟩ (hun n (Nat.le_refl _)) hC (by simpa [htl, Nat.min_eq_left (Nat.le_of_lt hlt)] using h0)
  rw [show n + (l.toArray.size - n) = l.toArray.size by omega] at H
  exact H
end
section
variable {P : Program} {l n : Nat}
/-- in a round: the first k operations read, compute or call functions that only make new memory, the others come in one order -/
theorem round_grows_tail {id : Nat} {Q : Exit → Act → World → Prop} {a : Act} {w : World} {ol : List Oper} (k : Nat) (hm : P.follows .mixedOrders = true) (hB : (backward ol.toArray && guardsB ol.toArray k && Region.lexB .any (ol.take k).toArray && Region.lexTailB .any ol.toArray k) = true) (hp : plainB ol.toArray = true) (hQ : ¬ LetsOut Q)
    (h : ∀ W : World, (∀ b o, W.cell? ⟨b, o, none⟩ = w.cell? ⟨b, o, none⟩) → W.heap.size = w.heap.size → (∀ (d : Ext W) (b o : Nat), b < W.heap.size → d.now.cell? ⟨b, o, none⟩ = W.cell? ⟨b, o, none⟩) →
      wpQuiet P (ol.take k).toArray (fun w' => ∃ d : Ext W, w' = d.now) (fun a' => ∀ w', Below w.heap.size w w' → wpList P ol.toArray Q (ol.drop k) a' w') (ol.take k) a) : (Code.region id ol.toArray true).wpIn (Fence.wide.inRound l) n P Q a w := by
  refine wpIn_region_any hm (any_in hp hQ _ _ _ _ ?_)
  refine any_head (C := fun w' => ∃ d : Ext w, w' = d.now) k hB (Grows.of (w := w) (w' := w.drew) ⟨rfl, rfl, rfl, Nat.le_refl _, fun _ _ => rfl⟩) ?_
  have := h w (fun _ _ => rfl) rfl Ext.cell
  refine wpQuiet_mono' (fun a' ha w' => ?_) _ _ this
  rintro ⟨d, rfl⟩
  exact ha _ d.grown
/-- in a round: all operations read, compute or call functions that only make new memory -/
theorem round_grows {id : Nat} {Q : Exit → Act → World → Prop} {a : Act} {w : World} {ol : List Oper} (hm : P.follows .mixedOrders = true) (hB : Region.lexB .any ol.toArray = true) (hp : plainB ol.toArray = true) (hQ : ¬ LetsOut Q)
    (h : ∀ W : World, (∀ b o, W.cell? ⟨b, o, none⟩ = w.cell? ⟨b, o, none⟩) → W.heap.size = w.heap.size → (∀ (d : Ext W) (b o : Nat), b < W.heap.size → d.now.cell? ⟨b, o, none⟩ = W.cell? ⟨b, o, none⟩) →
      wpQuiet P ol.toArray (fun w' => ∃ d : Ext W, w' = d.now) (fun a' => ∀ w', Below w.heap.size w w' → Q .normal a' w') ol a) : (Code.region id ol.toArray true).wpIn (Fence.wide.inRound l) n P Q a w := by
  simp only [Region.lexB, Bool.and_eq_true] at hB
  refine wpIn_region_any hm (any_in hp hQ _ _ _ _ ?_)
  have h1 := h w (fun _ _ => rfl) rfl Ext.cell
  have h2 : wpQuiet P ol.toArray (fun w' => ∃ d : Ext w, w' = d.now) (fun a' => ∀ w', (∃ d : Ext w, w' = d.now) → Q .normal a' w') ol a := wpQuiet_mono' (fun a' ha w' => by rintro ⟨d, rfl⟩; exact ha _ d.grown) _ _ h1
  have h3 := wpAnyQ_lex (C := fun w' => ∃ d : Ext w, w' = d.now) (md := .any) hB.1 ol 0 (Array.replicate ol.toArray.size false) a (by simp) (by simpa using hB.2) h2
  have := wpAny_of_quiet (C := fun w' => ∃ d : Ext w, w' = d.now) (Q := fun a' => ∀ w', (∃ d : Ext w, w' = d.now) → Q .normal a' w') (Q' := Q) (fun _ w' hw' h => h w' hw') _ _ _ _ (Grows.of (w := w) (w' := w.drew) ⟨rfl, rfl, rfl, Nat.le_refl _, fun _ _ => rfl⟩) h3
  simpa using this
theorem not_out_then {K : Act → World → Prop} {Q : Exit → Act → World → Prop} (h : ¬ LetsOut Q) : ¬ LetsOut (Exit.then K Q) := fun ⟨a, w, hq⟩ => h ⟨a, w, hq⟩
theorem not_out_post {α : Type} {Kp : World → World → Prop} {I : List α → World → Prop} {Ix : Code → List α → World → Prop} {xs : List α} {W : World} : ¬ LetsOut (ownPostK Kp I Ix xs W) := fun ⟨_, _, h⟩ => h
end
end Go.Proofs.Ytgncjpakclbegaa
namespace Go.Proofs.Ytgncjpakclbegaa
open Go.RowKit Go.Shelf Poly
set_option linter.unusedVariables false
attribute [local go_sem] Oper.semAt_some

set_option maxRecDepth 100000 in
set_option maxHeartbeats 4000000 in
theorem iArea {n₀ : Nat} {A : Nat → Nat} {L : List P2} {w : World} (hR : RingB n₀ A L w) (hn : n₀ ≤ w.heap.size) (hok : okP L = true) :
    Calls Try.prog 68 #[.agg #[.pointer (some ⟨A 0, 0, none⟩)]] w fun e w' => e = .returned (.int .i64 (areaL L)) ∧ Below w.heap.size w w' := by
  refine (callsIn_wide (n := 9)).1 ?_
  have HR := Lib.hid (And.intro hR hok)
  have hl := okP_len hok
  clear hR hok
  refine callsIn_of_wp_marks Try.func68 rfl trivial ?_ rfl
  simp only [Try.ntmps68, List.size_toArray, List.length_cons, List.length_nil, Nat.reduceAdd, Nat.reduceSub, Array.replicate_succ, Array.replicate_zero, List.push_toArray, List.append_toArray, List.nil_append, List.cons_append]
  gi_wp2
  refine ⟨by simp [Fence.wide], ?_⟩
  refine ((callsIn_wide.2 (iCorners _ _)).mono ?_)
  rintro e w' ⟨rfl, hw'⟩
  obtain ⟨w3, hw3⟩ : ∃ W, W = w' := ⟨_, rfl⟩
  rw [← hw3] at hw' ⊢
  have hsz : w3.heap.size = w.heap.size + 3 := by rw [hw']; simp
  have hb3 : Below w.heap.size w w3 := by
    rw [hw']
    exact (((Below.refl _ w).alloc (Nat.le_refl _) _).alloc (by simp) _).alloc (by simp; omega) _
  have y1 : w3.cell? ⟨w.heap.size + 1, 0, none⟩ = some (.int .i64 0) := by rw [hw']; simp [go_sem]
  have y2 : w3.cell? ⟨w.heap.size + 1 + 1, 0, none⟩ = some (.pointer (some ⟨A 0, 0, none⟩)) := by rw [hw']; simp [go_sem]
  have f1 : w3.frozen? ⟨w.heap.size + 1, 0, none⟩ = false := by rw [hw']; simp [go_sem]
  clear hw' hw3
  have hgive := corners_stops 8 (by decide) (w.heap.size + 1 + 1) n₀ A L (by omega) w3 (by omega) (by omega) y2 (HR.out.1.below (hb3.mono hn))
  gi_wp2
  refine wpIn_rangeFunc_ownF (F := Fence.wide) rfl (by decide) (gf := 127) (lb := #[.pointer (some ⟨w.heap.size + 1 + 1, 0, none⟩)]) rfl trivial (enters_of Try.func127 (by kernel_rfl) rfl) hgive
    (fun h k => h.t k) (Kp2.b (by omega) (by omega)) (Below.refl _ _) (fun _ => rfl)
    (fun pre W => W.cell? ⟨w.heap.size + 1, 0, none⟩ = some (.int .i64 (sumL (fun i => crP (cy L i) (cy L (i + 1))) pre)) ∧ W.frozen? ⟨w.heap.size + 1, 0, none⟩ = false ∧ Hold w n₀ A L w3.heap.size W)
    (fun _ _ _ => False)
    (fun s W W' row hs hg hr => ⟨cell_kept hs.1 hg (fun r e => (hr r e).2), (frozen_kept hs.1 hg (fun r e => (hr r e).2)).trans hs.2.1, hs.2.2.own (by omega) hg hr⟩)
    (fun _ _ _ _ _ hs _ _ => hs)
    ⟨y1, f1, HR.out.1.below (hb3.mono hn), hb3, Nat.le_refl _⟩
    (fun x => { tmps := #[.agg #[.pointer (some ⟨A 0, 0, none⟩)], .pointer (some ⟨w.heap.size, 0, none⟩), .int .i64 0, .pointer (some ⟨w.heap.size + 1, 0, none⟩), .pointer (some ⟨A x, 0, none⟩), .agg #[.pointer (some ⟨A 0, 0, none⟩)], .func (.func 127) #[] #[.pointer (some ⟨w.heap.size + 1 + 1, 0, none⟩)], .pointer (some ⟨A x, 0, none⟩), undef, undef, undef, undef, undef, undef, undef, undef, undef, undef, undef, undef, undef, undef, undef, undef, undef], defers := [] }) ?assign ?body ?done ?stop
  case assign =>
    intro l x W K hK
    gi_wp2
    exact hK
  case body =>
    rintro l pre x W ⟨hc, hf, hH⟩ hlen
    gi_wp2
    have hv := okP_at HR.out.2
    have hsm := sumL_bd (f := fun i => crP (cy L i) (cy L (i + 1))) (m := 200000000) (fun i => crP_bd (hv i) (hv (i + 1))) pre
    have hm : (200000000 : Int) * (pre.length : Int) ≤ 2400000000 := by omega
    have hcb := crP_bd (hv x) (hv (x + 1))
    have c1 := fun w => Lib.hid (cross_any (cy L x).1 (cy L x).2 (cy L (x + 1)).1 (cy L (x + 1)).2 w (sv_pv (hv x)) (sv_pv (hv (x + 1))))
    obtain ⟨x0, x1, x2⟩ := hH.ring.ring.cells x
    obtain ⟨z0, z1, z2⟩ := hH.ring.ring.cells (x + 1)
    have l1 : A x < W.heap.size := by have := hH.ring.ring.lt x; have := hH.size; omega
    have l2 : A (x + 1) < W.heap.size := by have := hH.ring.ring.lt (x + 1); have := hH.size; omega
    have l3 : w.heap.size + 1 < W.heap.size := by have := hH.size; omega
    obtain ⟨s, hs⟩ : ∃ s, sumL (fun i => crP (cy L i) (cy L (i + 1))) pre = s := ⟨_, rfl⟩
    have hcr : Pt.cr (cy L x).1 (cy L x).2 (cy L (x + 1)).1 (cy L (x + 1)).2 = crP (cy L x) (cy L (x + 1)) := rfl
    rw [hs] at hc hsm
    simp only [hcr] at c1
    obtain ⟨t, ht⟩ : ∃ t, crP (cy L x) (cy L (x + 1)) = t := ⟨_, rfl⟩
    rw [ht] at hcb
    simp only [ht] at c1
    have hW3 := hH.size
    have HH := Lib.hid (And.intro hH (And.intro hs ht))
    clear hH hs hv hcr ht
    (refine round_grows_tail 16 (by kernel_rfl) (by kernel_rfl) (by kernel_rfl) (fun ⟨_, _, h⟩ => h) ?_; simp only [List.take_succ_cons, List.take_zero, List.drop_succ_cons, List.drop_zero]; intro W_wg hWc_wg hWs_wg hWe_wg; (repeat (go_big_quiet_step ((first | (go_at_call 85; with_reducible exact Ext.call (placeOf_any _ _ _)) | (go_at_call 108; with_reducible exact Ext.call ((c1 _).out)))))); with_reducible refine wpQuiet_nil ?_; clear hWe_wg hWs_wg hWc_wg W_wg; intro wg hb_wg; obtain ⟨hc_wg, hf_wg⟩ := bcell hb_wg; (try simp only [World.size_drew, World.cell?_drew, World.frozen?_drew, World.heap_drewN, World.cell?_drewN, World.frozen?_drewN] at hc_wg hf_wg); have hs_wg := hb_wg.size; (try simp at hs_wg))
    go_wp2_with fail
    have hHg := HH.out.1.next (W' := wg) hn (by omega) (hb_wg.mono HH.out.1.size)
    exact ⟨(keeps_below hb_wg).trans (KeepsOthers.setCell _ _ _), Kp2.put hb_wg (by omega) (by omega) (by omega) (by omega) _,
      by rw [sumL_snoc, HH.out.2.1, HH.out.2.2]; exact World.cell?_setCell_same' _ _ _ (by rw [hc_wg _ _ l3, hc]; rfl), by rw [World.frozen?_setCell, hf_wg _ _ l3]; exact hf, hHg.put hn (by omega) _⟩
  case done =>
    rintro D ys W hD rfl ⟨hc, hf, hH⟩ hK
    gi_wp2
    refine ⟨by simp, .inl ⟨_, _, rfl, run_takeDeferred hK, ?_⟩⟩
    exact ⟨_, results_tmp rfl _ _ _, by rw [sumL_range]; rfl, hH.below.trans (below_put W D _ (by omega))⟩
  case stop =>
    rintro D c pre W _ _ h _
    exact h.elim
theorem gapP_bd' {a b : P2} (h : pvP a = true) (h' : pvP b = true) : -20000 ≤ gapP a b ∧ gapP a b ≤ 20000 := by have := gapP_bd h h'; omega
theorem iGapsP {a b : P2} (ha : pvP a = true) (hb : pvP b = true) (w : World) :
    Calls Try.prog 110 #[.agg #[.int .i64 a.1, .int .i64 a.2], .agg #[.int .i64 b.1, .int .i64 b.2]] w fun e w' => e = .returned (.int .i64 (gapP a b)) ∧ Below w.heap.size w w' := by
  have := iGaps_any a.1 a.2 b.1 b.2 w
  rw [show both a.1 a.2 b.1 b.2 = true by unfold both; unfold pvP at ha hb; rw [ha, hb]; rfl] at this
  exact this
set_option maxRecDepth 100000 in
set_option maxHeartbeats 4000000 in
theorem iEdge {n₀ : Nat} {A : Nat → Nat} {L : List P2} {w : World} (hR : RingB n₀ A L w) (hn : n₀ ≤ w.heap.size) (hok : okP L = true) :
    Calls Try.prog 73 #[.agg #[.pointer (some ⟨A 0, 0, none⟩)]] w fun e w' => e = .returned (.int .i64 (edgeL L)) ∧ Below w.heap.size w w' := by
  refine (callsIn_wide (n := 9)).1 ?_
  have HR := Lib.hid (And.intro hR hok)
  have hl := okP_len hok
  clear hR hok
  refine callsIn_of_wp_marks Try.func73 rfl trivial ?_ rfl
  simp only [Try.ntmps73, List.size_toArray, List.length_cons, List.length_nil, Nat.reduceAdd, Nat.reduceSub, Array.replicate_succ, Array.replicate_zero, List.push_toArray, List.append_toArray, List.nil_append, List.cons_append]
  gi_wp2
  refine ⟨by simp [Fence.wide], ?_⟩
  refine ((callsIn_wide.2 (iCorners _ _)).mono ?_)
  rintro e w' ⟨rfl, hw'⟩
  obtain ⟨w3, hw3⟩ : ∃ W, W = w' := ⟨_, rfl⟩
  rw [← hw3] at hw' ⊢
  have hsz : w3.heap.size = w.heap.size + 3 := by rw [hw']; simp
  have hb3 : Below w.heap.size w w3 := by
    rw [hw']
    exact (((Below.refl _ w).alloc (Nat.le_refl _) _).alloc (by simp) _).alloc (by simp; omega) _
  have y1 : w3.cell? ⟨w.heap.size + 1, 0, none⟩ = some (.int .i64 0) := by rw [hw']; simp [go_sem]
  have y2 : w3.cell? ⟨w.heap.size + 1 + 1, 0, none⟩ = some (.pointer (some ⟨A 0, 0, none⟩)) := by rw [hw']; simp [go_sem]
  have f1 : w3.frozen? ⟨w.heap.size + 1, 0, none⟩ = false := by rw [hw']; simp [go_sem]
  clear hw' hw3
  have hgive := corners_stops 8 (by decide) (w.heap.size + 1 + 1) n₀ A L (by omega) w3 (by omega) (by omega) y2 (HR.out.1.below (hb3.mono hn))
  gi_wp2
  refine wpIn_rangeFunc_ownF (F := Fence.wide) rfl (by decide) (gf := 127) (lb := #[.pointer (some ⟨w.heap.size + 1 + 1, 0, none⟩)]) rfl trivial (enters_of Try.func127 (by kernel_rfl) rfl) hgive
    (fun h k => h.t k) (Kp2.b (by omega) (by omega)) (Below.refl _ _) (fun _ => rfl)
    (fun pre W => W.cell? ⟨w.heap.size + 1, 0, none⟩ = some (.int .i64 (sumL (fun i => gapP (cy L i) (cy L (i + 1))) pre)) ∧ W.frozen? ⟨w.heap.size + 1, 0, none⟩ = false ∧ Hold w n₀ A L w3.heap.size W)
    (fun _ _ _ => False)
    (fun s W W' row hs hg hr => ⟨cell_kept hs.1 hg (fun r e => (hr r e).2), (frozen_kept hs.1 hg (fun r e => (hr r e).2)).trans hs.2.1, hs.2.2.own (by omega) hg hr⟩)
    (fun _ _ _ _ _ hs _ _ => hs)
    ⟨y1, f1, HR.out.1.below (hb3.mono hn), hb3, Nat.le_refl _⟩
    (fun x => { tmps := #[.agg #[.pointer (some ⟨A 0, 0, none⟩)], .pointer (some ⟨w.heap.size, 0, none⟩), .int .i64 0, .pointer (some ⟨w.heap.size + 1, 0, none⟩), .pointer (some ⟨A x, 0, none⟩), .agg #[.pointer (some ⟨A 0, 0, none⟩)], .func (.func 127) #[] #[.pointer (some ⟨w.heap.size + 1 + 1, 0, none⟩)], .pointer (some ⟨A x, 0, none⟩), undef, undef, undef, undef, undef, undef, undef, undef, undef, undef, undef, undef, undef, undef, undef], defers := [] }) ?assign ?body ?done ?stop
  case assign =>
    intro l x W K hK
    gi_wp2
    exact hK
  case body =>
    rintro l pre x W ⟨hc, hf, hH⟩ hlen
    gi_wp2
    have hv := okP_at HR.out.2
    have hsm := sumL_bd (f := fun i => gapP (cy L i) (cy L (i + 1))) (m := 20000) (fun i => gapP_bd' (hv i) (hv (i + 1))) pre
    have hm : (20000 : Int) * (pre.length : Int) ≤ 240000 := by omega
    have hcb := gapP_bd' (hv x) (hv (x + 1))
    have c1 := fun w => Lib.hid (iGapsP (hv x) (hv (x + 1)) w)
    obtain ⟨x0, x1, x2⟩ := hH.ring.ring.cells x
    obtain ⟨z0, z1, z2⟩ := hH.ring.ring.cells (x + 1)
    have l1 : A x < W.heap.size := by have := hH.ring.ring.lt x; have := hH.size; omega
    have l2 : A (x + 1) < W.heap.size := by have := hH.ring.ring.lt (x + 1); have := hH.size; omega
    have l3 : w.heap.size + 1 < W.heap.size := by have := hH.size; omega
    obtain ⟨s, hs⟩ : ∃ s, sumL (fun i => gapP (cy L i) (cy L (i + 1))) pre = s := ⟨_, rfl⟩
    rw [hs] at hc hsm
    obtain ⟨t, ht⟩ : ∃ t, gapP (cy L x) (cy L (x + 1)) = t := ⟨_, rfl⟩
    rw [ht] at hcb
    simp only [ht] at c1
    have hW3 := hH.size
    have HH := Lib.hid (And.intro hH (And.intro hs ht))
    clear hH hs hv ht
    (refine round_grows_tail 14 (by kernel_rfl) (by kernel_rfl) (by kernel_rfl) (fun ⟨_, _, h⟩ => h) ?_; simp only [List.take_succ_cons, List.take_zero, List.drop_succ_cons, List.drop_zero]; intro W_wg hWc_wg hWs_wg hWe_wg; (repeat (go_big_quiet_step ((go_at_call 110; with_reducible exact Ext.call ((c1 _).out))))); with_reducible refine wpQuiet_nil ?_; clear hWe_wg hWs_wg hWc_wg W_wg; intro wg hb_wg; obtain ⟨hc_wg, hf_wg⟩ := bcell hb_wg; (try simp only [World.size_drew, World.cell?_drew, World.frozen?_drew, World.heap_drewN, World.cell?_drewN, World.frozen?_drewN] at hc_wg hf_wg); have hs_wg := hb_wg.size; (try simp at hs_wg))
    go_wp2_with fail
    have hHg := HH.out.1.next (W' := wg) hn (by omega) (hb_wg.mono HH.out.1.size)
    exact ⟨(keeps_below hb_wg).trans (KeepsOthers.setCell _ _ _), Kp2.put hb_wg (by omega) (by omega) (by omega) (by omega) _,
      by rw [sumL_snoc, HH.out.2.1, HH.out.2.2]; exact World.cell?_setCell_same' _ _ _ (by rw [hc_wg _ _ l3, hc]; rfl), by rw [World.frozen?_setCell, hf_wg _ _ l3]; exact hf, hHg.put hn (by omega) _⟩
  case done =>
    rintro D ys W hD rfl ⟨hc, hf, hH⟩ hK
    gi_wp2
    refine ⟨by simp, .inl ⟨_, _, rfl, run_takeDeferred hK, ?_⟩⟩
    exact ⟨_, results_tmp rfl _ _ _, by rw [sumL_range]; rfl, hH.below.trans (below_put W D _ (by omega))⟩
  case stop =>
    rintro D c pre W _ _ h _
    exact h.elim
end Go.Proofs.Ytgncjpakclbegaa
namespace Go.Proofs.Ytgncjpakclbegaa
open Go.RowKit Go.Shelf Poly
set_option linter.unusedVariables false
attribute [local go_sem] Oper.semAt_some

set_option maxRecDepth 100000 in
set_option maxHeartbeats 4000000 in
theorem iConvexM {n₀ : Nat} {A : Nat → Nat} {L : List P2} {w : World} (hR : RingB n₀ A L w) (hn : n₀ ≤ w.heap.size) (hok : okP L = true) :
    Calls Try.prog 77 #[.agg #[.pointer (some ⟨A 0, 0, none⟩)]] w fun e w' => e = .returned (.bool (!(anyF (turnBad L) L.length))) ∧ Below w.heap.size w w' := by
  refine (callsIn_wide (n := 9)).1 ?_
  have c1 := fun w h h2 => Lib.hid (iArea (n₀ := n₀) (A := A) (L := L) (w := w) h h2 hok)
  have har := area_bd hok
  have HR := Lib.hid (And.intro hR hok)
  have hl := okP_len hok
  clear hR hok
  refine callsIn_of_wp_marks Try.func77 rfl trivial ?_ rfl
  simp only [Try.ntmps77, List.size_toArray, List.length_cons, List.length_nil, Nat.reduceAdd, Nat.reduceSub, Array.replicate_succ, Array.replicate_zero, List.push_toArray, List.append_toArray, List.nil_append, List.cons_append]
  gi_wp2
  refine ⟨by simp [Fence.wide], ?_⟩
  refine ((callsIn_wide.2 (c1 _ ?_ ?_).out).mono ?_)
  · exact HR.out.1.below (((Below.refl _ w).alloc hn _).alloc (by simp; omega) _)
  · simp; omega
  rintro e wa ⟨rfl, hba⟩
  obtain ⟨ar, hare⟩ : ∃ x, areaL L = x := ⟨_, rfl⟩
  rw [hare] at har ⊢
  have hsa := hba.size
  simp at hsa
  have r1 : wa.cell? ⟨w.heap.size + 1, 0, none⟩ = some (.bool false) := by rw [hba.cell (p := ⟨w.heap.size + 1, 0, none⟩) (by simp)]; simp [go_sem]
  have r2 : wa.frozen? ⟨w.heap.size + 1, 0, none⟩ = false := by rw [hba.frozen (p := ⟨w.heap.size + 1, 0, none⟩) (by simp)]; simp [go_sem]
  have r3 : wa.cell? ⟨w.heap.size, 0, none⟩ = some (.pointer (some ⟨A 0, 0, none⟩)) := by rw [hba.cell (p := ⟨w.heap.size, 0, none⟩) (by simp; omega)]; simp [go_sem]
  have hba0 : Below w.heap.size w wa := (((Below.refl _ w).alloc (Nat.le_refl _) _).alloc (by simp) _).trans (hba.mono (by simp; omega))
  clear hba c1
  have hz0 : w.heap.size < wa.heap.size := by omega
  have hz1 : w.heap.size + 1 < wa.heap.size := by omega
  gi_wp2
  refine ⟨by simp [Fence.wide], ?_⟩
  refine ((callsIn_wide.2 (iCorners _ _)).mono ?_)
  rintro e w' ⟨rfl, hw'⟩
  obtain ⟨w3, hw3⟩ : ∃ W, W = w' := ⟨_, rfl⟩
  rw [← hw3] at hw' ⊢
  have hsz : w3.heap.size = wa.heap.size + 2 := by rw [hw']; simp
  have hb3 : Below wa.heap.size wa w3 := by
    rw [hw']
    exact ((Below.refl _ wa).alloc (Nat.le_refl _) _).alloc (by simp) _
  have y1 : w3.cell? ⟨wa.heap.size, 0, none⟩ = some (.int .i64 ar) := by rw [hw']; simp [go_sem]
  have y2 : w3.cell? ⟨wa.heap.size + 1, 0, none⟩ = some (.pointer (some ⟨A 0, 0, none⟩)) := by rw [hw']; simp [go_sem]
  have q1 := (hb3.cell (p := ⟨w.heap.size + 1, 0, none⟩) (show w.heap.size + 1 < wa.heap.size by omega)).trans r1
  have q2 := (hb3.frozen (p := ⟨w.heap.size + 1, 0, none⟩) (show w.heap.size + 1 < wa.heap.size by omega)).trans r2
  have hb0 : Below w.heap.size w w3 := hba0.trans (hb3.mono (by omega))
  clear hw' hw3 r1 r2 r3
  have hgive := corners_stops 8 (by decide) (wa.heap.size + 1) n₀ A L (by omega) w3 (by omega) (by omega) y2 (HR.out.1.below (hb0.mono hn))
  gi_wp2
  refine wpIn_rangeFunc_ownF (F := Fence.wide) rfl (by decide) (gf := 127) (lb := #[.pointer (some ⟨wa.heap.size + 1, 0, none⟩)]) rfl trivial (enters_of Try.func127 (by kernel_rfl) rfl) hgive
    (fun h k => h.t k) (Kp2.b (by omega) (by omega)) (Below.refl _ _) (fun _ => rfl)
    (fun pre W => W.cell? ⟨wa.heap.size, 0, none⟩ = some (.int .i64 ar) ∧ W.cell? ⟨w.heap.size + 1, 0, none⟩ = some (.bool false) ∧ W.frozen? ⟨w.heap.size + 1, 0, none⟩ = false ∧ (∀ x ∈ pre, turnBad L x = false) ∧ Hold w n₀ A L w3.heap.size W)
    (fun c pre W => c = .ret ∧ W.cell? ⟨w.heap.size + 1, 0, none⟩ = some (.bool false) ∧ (∃ x, turnBad L x = true) ∧ Hold w n₀ A L w3.heap.size W)
    (fun s W W' row hs hg hr => ⟨cell_kept hs.1 hg (fun r e => (hr r e).2), cell_kept hs.2.1 hg (fun r e => (hr r e).2), (frozen_kept hs.2.1 hg (fun r e => (hr r e).2)).trans hs.2.2.1, hs.2.2.2.1, hs.2.2.2.2.own (by omega) hg hr⟩)
    (fun c s W W' row hs hg hr => ⟨hs.1, cell_kept hs.2.1 hg (fun r e => (hr r e).2), hs.2.2.1, hs.2.2.2.own (by omega) hg hr⟩)
    ⟨y1, q1, q2, by simp, HR.out.1.below (hb0.mono hn), hb0, Nat.le_refl _⟩
    (fun x => { tmps := #[.agg #[.pointer (some ⟨A 0, 0, none⟩)], .pointer (some ⟨w.heap.size, 0, none⟩), .pointer (some ⟨w.heap.size + 1, 0, none⟩), .pointer (some ⟨wa.heap.size, 0, none⟩), .pointer (some ⟨A x, 0, none⟩), .agg #[.pointer (some ⟨A 0, 0, none⟩)], .int .i64 ar, .agg #[.pointer (some ⟨A 0, 0, none⟩)], .func (.func 127) #[] #[.pointer (some ⟨wa.heap.size + 1, 0, none⟩)], .pointer (some ⟨A x, 0, none⟩), undef, undef, undef, undef, undef, undef, undef, undef, undef, undef, undef, undef, undef, undef, undef], defers := [] }) ?assign ?body ?done ?stop
  case assign =>
    intro l x W K hK
    gi_wp2
    exact hK
  case body =>
    rintro l pre x W ⟨hc, hd, hf, hp, hH⟩ hlen
    gi_wp2
    have hv := okP_at HR.out.2
    have hrr := hH.ring.ring
    have hW3 := hH.size
    have hnW : n₀ ≤ W.heap.size := by omega
    have c1 := fun (V : World) (hc : ∀ b o, V.cell? ⟨b, o, none⟩ = W.cell? ⟨b, o, none⟩) (hs : V.heap.size = W.heap.size) (d : Ext V) => Lib.hid (iTurn (hrr.ext hnW hc hs d).1 (hrr.ext hnW hc hs d).2 hv x (hv (x + 2)))
    obtain ⟨x0, x1, x2⟩ := hrr.cells x
    obtain ⟨z0, z1, z2⟩ := hrr.cells (x + 1)
    obtain ⟨u0, u1, u2⟩ := hrr.cells (x + 2)
    have l1 : A x < W.heap.size := by have := hrr.lt x; omega
    have l2 : A (x + 1) < W.heap.size := by have := hrr.lt (x + 1); omega
    have l3 : A (x + 2) < W.heap.size := by have := hrr.lt (x + 2); omega
    have l4 : wa.heap.size < W.heap.size := by omega
    have l5 : w.heap.size + 1 < W.heap.size := by omega
    have hsd := sd_bd (cy L x) (cy L (x + 1)) (cy L (x + 2))
    have htb : turnBad L x = decide (sd (cy L x) (cy L (x + 1)) (cy L (x + 2)) * ar < 0) := by unfold turnBad; rw [hare]
    obtain ⟨s, hs⟩ : ∃ s, sd (cy L x) (cy L (x + 1)) (cy L (x + 2)) = s := ⟨_, rfl⟩
    rw [hs] at hsd htb
    simp only [hs] at c1
    have hm := Pt.mul_bd hsd.1 hsd.2 har.1 har.2
    have HH := Lib.hid (And.intro hH (And.intro htb hp))
    clear hH hs hv hrr htb hp
    by_cases hneg : s * ar < 0
    · (refine round_grows (by kernel_rfl) (by kernel_rfl) (by kernel_rfl) (fun ⟨_, _, h⟩ => h) ?_; intro W_wg hWc_wg hWs_wg hWe_wg; (repeat (go_big_quiet_step ((go_at_call 114; with_reducible exact Ext.call ((c1 _ hWc_wg hWs_wg _).out))))); with_reducible refine wpQuiet_nil ?_; clear hWe_wg hWs_wg hWc_wg W_wg; intro wg hb_wg; obtain ⟨hc_wg, hf_wg⟩ := bcell hb_wg; (try simp only [World.size_drew, World.cell?_drew, World.frozen?_drew, World.heap_drewN, World.cell?_drewN, World.frozen?_drewN] at hc_wg hf_wg); have hs_wg := hb_wg.size; (try simp at hs_wg))
      have q1 : wg.cell? ⟨w.heap.size + 1, 0, none⟩ = some (.bool false) := by rw [hc_wg _ _ l5]; exact hd
      have q2 : wg.frozen? ⟨w.heap.size + 1, 0, none⟩ = false := by rw [hf_wg _ _ l5]; exact hf
      gi_wp2
      have hHg := HH.out.1.next (W' := wg) hn (by omega) (hb_wg.mono HH.out.1.size)
      exact ⟨(keeps_below hb_wg).trans (KeepsOthers.setCell _ _ _), rfl, World.cell?_setCell_same' _ _ _ (by rw [q1]; rfl), ⟨x, by rw [HH.out.2.1]; exact decide_eq_true hneg⟩, hHg.put hn (by omega) _⟩
    · (refine round_grows (by kernel_rfl) (by kernel_rfl) (by kernel_rfl) (fun ⟨_, _, h⟩ => h) ?_; intro W_wg hWc_wg hWs_wg hWe_wg; (repeat (go_big_quiet_step ((go_at_call 114; with_reducible exact Ext.call ((c1 _ hWc_wg hWs_wg _).out))))); with_reducible refine wpQuiet_nil ?_; clear hWe_wg hWs_wg hWc_wg W_wg; intro wg hb_wg; obtain ⟨hc_wg, hf_wg⟩ := bcell hb_wg; (try simp only [World.size_drew, World.cell?_drew, World.frozen?_drew, World.heap_drewN, World.cell?_drewN, World.frozen?_drewN] at hc_wg hf_wg); have hs_wg := hb_wg.size; (try simp at hs_wg))
      gi_wp2
      have hHg := HH.out.1.next (W' := wg) hn (by omega) (hb_wg.mono HH.out.1.size)
      exact ⟨keeps_below hb_wg, Kp2.of hb_wg (by omega) (by omega), by rw [hc_wg _ _ l4]; exact hc, by rw [hc_wg _ _ l5]; exact hd, by rw [hf_wg _ _ l5]; exact hf,
        fun y hy => (List.mem_append.1 hy).elim (HH.out.2.2 y) (fun e => by simp at e; subst e; rw [HH.out.2.1]; exact decide_eq_false (by omega)), by rw [← hsz]; exact hHg⟩
  case done =>
    rintro D ys W hD rfl ⟨hc, hd, hf, hp, hH⟩ hK
    gi_wp2
    have hK' := (KeepsOthers.setCell W ⟨w.heap.size + 1, 0, none⟩ (.bool true)).same D _ hK rfl
    refine ⟨by simp, .inl ⟨_, _, rfl, run_takeDeferred hK', ?_⟩⟩
    have hc5 := cell_kept (World.cell?_setCell_same' W ⟨w.heap.size + 1, 0, none⟩ (.bool true) (by rw [hd]; rfl)) (grownBy_putObj' _ D (.deferred none)) (fun r e => by cases e; exact ⟨_, hK', rfl⟩)
    refine ⟨.bool true, ?_, by rw [anyF_false (fun i hi => hp i (List.mem_range.2 hi))]; rfl, (hH.below.setCell (p := ⟨w.heap.size + 1, 0, none⟩) (by simp) _).trans (below_put _ D _ (by omega))⟩
    simp [results, Try.results77, go_sem, hc5]
  case stop =>
    rintro D c pre W hD hpre ⟨rfl, hd, ⟨x, hx⟩, hH⟩ hK
    gi_wp2
    refine ⟨by simp, .inl ⟨_, _, rfl, run_takeDeferred hK, ?_⟩⟩
    have hc5 := cell_kept hd (grownBy_putObj' _ D (.deferred none)) (fun r e => by cases e; exact ⟨_, hK, rfl⟩)
    refine ⟨.bool false, ?_, ?_, hH.below.trans (below_put _ D _ (by omega))⟩
    · simp [results, Try.results77, go_sem, hc5]
    · rw [anyF_of (i := x % L.length) (Nat.mod_lt _ (by omega)) (by rw [← hx]; unfold turnBad; rw [cy_mod, show cy L (x % L.length + 1) = cy L (x + 1) by unfold cy; rw [Nat.mod_add_mod], show cy L (x % L.length + 2) = cy L (x + 2) by unfold cy; rw [Nat.mod_add_mod]])]; rfl
end Go.Proofs.Ytgncjpakclbegaa
namespace Go.Proofs.Ytgncjpakclbegaa
open Go.RowKit Go.Shelf Poly
set_option linter.unusedVariables false
attribute [local go_sem] Oper.semAt_some

/-- what is found so far -/
def fnd (L : List P2) (p : P2) (pre : List Nat) : Int := if oddP (fun i => east (cy L i) (cy L (i + 1)) p) pre then 1 else -1
theorem fnd_snoc (L : List P2) (p : P2) (pre : List Nat) (x : Nat) : fnd L p (pre ++ [x]) = if east (cy L x) (cy L (x + 1)) p then -(fnd L p pre) else fnd L p pre := by
  unfold fnd; rw [oddP_snoc]
  cases oddP (fun i => east (cy L i) (cy L (i + 1)) p) pre <;> cases east (cy L x) (cy L (x + 1)) p <;> simp
theorem fnd_bd (L : List P2) (p : P2) (pre : List Nat) : fnd L p pre = 1 ∨ fnd L p pre = -1 := by unfold fnd; split <;> simp
set_option maxRecDepth 100000 in
set_option maxHeartbeats 4000000 in
theorem iLocate {n₀ : Nat} {A : Nat → Nat} {L : List P2} {w : World} (hR : RingB n₀ A L w) (hn : n₀ ≤ w.heap.size) (hok : okP L = true) {p : P2} (hpv : pvP p = true) :
    Calls Try.prog 75 #[.agg #[.pointer (some ⟨A 0, 0, none⟩)], .agg #[.int .i64 p.1, .int .i64 p.2]] w fun e w' => e = .returned (.int .i64 (placeL L p)) ∧ Below w.heap.size w w' := by
  refine (callsIn_wide (n := 9)).1 ?_
  have HR := Lib.hid (And.intro hR (And.intro hok hpv))
  have hl := okP_len hok
  clear hR hok hpv
  refine callsIn_of_wp_marks Try.func75 rfl trivial ?_ rfl
  simp only [Try.ntmps75, List.size_toArray, List.length_cons, List.length_nil, Nat.reduceAdd, Nat.reduceSub, Array.replicate_succ, Array.replicate_zero, List.push_toArray, List.append_toArray, List.nil_append, List.cons_append]
  gi_wp2
  refine ⟨by simp [Fence.wide], ?_⟩
  refine ((callsIn_wide.2 (iCorners _ _)).mono ?_)
  rintro e w' ⟨rfl, hw'⟩
  obtain ⟨w3, hw3⟩ : ∃ W, W = w' := ⟨_, rfl⟩
  rw [← hw3] at hw' ⊢
  have hsz : w3.heap.size = w.heap.size + 5 := by rw [hw']; simp
  have hb3 : Below w.heap.size w w3 := by
    rw [hw']
    exact (((((Below.refl _ w).alloc (Nat.le_refl _) _).alloc (by simp) _).alloc (by simp; omega) _).alloc (by simp; omega) _).alloc (by simp; omega) _
  have p1 : w3.cell? ⟨w.heap.size + 1, 0, none⟩ = some (.int .i64 p.1) := by rw [hw']; simp [go_sem]
  have p2 : w3.cell? ⟨w.heap.size + 1, 1, none⟩ = some (.int .i64 p.2) := by rw [hw']; simp [go_sem]
  have q1 : w3.cell? ⟨w.heap.size + 1 + 1, 0, none⟩ = some (.int .i64 0) := by rw [hw']; simp [go_sem]
  have q2 : w3.frozen? ⟨w.heap.size + 1 + 1, 0, none⟩ = false := by rw [hw']; simp [go_sem]
  have y1 : w3.cell? ⟨w.heap.size + 1 + 1 + 1, 0, none⟩ = some (.int .i64 (-1)) := by rw [hw']; simp [go_sem]
  have f1 : w3.frozen? ⟨w.heap.size + 1 + 1 + 1, 0, none⟩ = false := by rw [hw']; simp [go_sem]
  have y2 : w3.cell? ⟨w.heap.size + 1 + 1 + 1 + 1, 0, none⟩ = some (.pointer (some ⟨A 0, 0, none⟩)) := by rw [hw']; simp [go_sem]
  clear hw' hw3
  have hgive := corners_stops 8 (by decide) (w.heap.size + 1 + 1 + 1 + 1) n₀ A L (by omega) w3 (by omega) (by omega) y2 (HR.out.1.below (hb3.mono hn))
  gi_wp2
  refine wpIn_rangeFunc_ownF (F := Fence.wide) rfl (by decide) (gf := 127) (lb := #[.pointer (some ⟨w.heap.size + 1 + 1 + 1 + 1, 0, none⟩)]) rfl trivial (enters_of Try.func127 (by kernel_rfl) rfl) hgive
    (fun h k => h.t k) (Kp2.b (by omega) (by omega)) (Below.refl _ _) (fun _ => rfl)
    (fun pre W => W.cell? ⟨w.heap.size + 1 + 1 + 1, 0, none⟩ = some (.int .i64 (fnd L p pre)) ∧ W.frozen? ⟨w.heap.size + 1 + 1 + 1, 0, none⟩ = false ∧ W.cell? ⟨w.heap.size + 1 + 1, 0, none⟩ = some (.int .i64 0) ∧ W.frozen? ⟨w.heap.size + 1 + 1, 0, none⟩ = false ∧ (W.cell? ⟨w.heap.size + 1, 0, none⟩ = some (.int .i64 p.1) ∧ W.cell? ⟨w.heap.size + 1, 1, none⟩ = some (.int .i64 p.2)) ∧ (∀ x ∈ pre, onP (cy L x) (cy L (x + 1)) p = false) ∧ Hold w n₀ A L w3.heap.size W)
    (fun c pre W => c = .ret ∧ W.cell? ⟨w.heap.size + 1 + 1, 0, none⟩ = some (.int .i64 0) ∧ (∃ x, onP (cy L x) (cy L (x + 1)) p = true) ∧ Hold w n₀ A L w3.heap.size W)
    (fun s W W' row hs hg hr => ⟨cell_kept hs.1 hg (fun r e => (hr r e).2), (frozen_kept hs.1 hg (fun r e => (hr r e).2)).trans hs.2.1, cell_kept hs.2.2.1 hg (fun r e => (hr r e).2), (frozen_kept hs.2.2.1 hg (fun r e => (hr r e).2)).trans hs.2.2.2.1, ⟨cell_kept hs.2.2.2.2.1.1 hg (fun r e => (hr r e).2), cell_kept hs.2.2.2.2.1.2 hg (fun r e => (hr r e).2)⟩, hs.2.2.2.2.2.1, hs.2.2.2.2.2.2.own (by omega) hg hr⟩)
    (fun c s W W' row hs hg hr => ⟨hs.1, cell_kept hs.2.1 hg (fun r e => (hr r e).2), hs.2.2.1, hs.2.2.2.own (by omega) hg hr⟩)
    ⟨y1, f1, q1, q2, ⟨p1, p2⟩, by simp, HR.out.1.below (hb3.mono hn), hb3, Nat.le_refl _⟩
    (fun x => { tmps := #[.agg #[.pointer (some ⟨A 0, 0, none⟩)], .agg #[.int .i64 p.1, .int .i64 p.2], .pointer (some ⟨w.heap.size, 0, none⟩), .pointer (some ⟨w.heap.size + 1, 0, none⟩), .pointer (some ⟨w.heap.size + 1 + 1, 0, none⟩), .pointer (some ⟨w.heap.size + 1 + 1 + 1, 0, none⟩), .pointer (some ⟨A x, 0, none⟩), .agg #[.pointer (some ⟨A 0, 0, none⟩)], .func (.func 127) #[] #[.pointer (some ⟨w.heap.size + 1 + 1 + 1 + 1, 0, none⟩)], .pointer (some ⟨A x, 0, none⟩), undef, undef, undef, undef, undef, undef, undef, undef, undef], defers := [] }) ?assign ?body ?done ?stop
  case assign =>
    intro l x W K hK
    gi_wp2
    exact hK
  case body =>
    rintro l pre x W ⟨hc, hf, hd, hdf, ⟨hp1, hp2⟩, hp, hH⟩ hlen
    have hv := okP_at HR.out.2.1
    have hrr := hH.ring
    have hW3 := hH.size
    have hnW : n₀ ≤ W.heap.size := by omega
    have c1 := Lib.hid (iCarries (w := W) hrr.ring hnW hv x HR.out.2.2)
    have c2 := fun w h h2 => Lib.hid (iEast (n₀ := n₀) (A := A) (L := L) (w := w) h h2 hv x HR.out.2.2)
    obtain ⟨b1, hb1⟩ : ∃ b, onP (cy L x) (cy L (x + 1)) p = b := ⟨_, rfl⟩
    obtain ⟨b2, hb2⟩ : ∃ b, east (cy L x) (cy L (x + 1)) p = b := ⟨_, rfl⟩
    have hfs := fnd_snoc L p pre x
    rw [hb1] at c1
    simp only [hb2] at c2 hfs
    have l1 : w.heap.size + 1 < W.heap.size := by omega
    have l2 : w.heap.size + 1 + 1 < W.heap.size := by omega
    have l3 : w.heap.size + 1 + 1 + 1 < W.heap.size := by omega
    have hfb := fnd_bd L p pre
    obtain ⟨s, hs⟩ : ∃ s, fnd L p pre = s := ⟨_, rfl⟩
    rw [hs] at hc hfs hfb
    have HH := Lib.hid (And.intro hH (And.intro hp (And.intro hb1 hfs)))
    clear hH hs hv hrr hp hb1 hb2 hfs
    gi_wp2
    refine ⟨by simp [Fence.wide], ?_⟩
    refine (CallsIn.inRound l (callsIn_wide.2 c1.out)).mono ?_
    rintro e wb ⟨rfl, hbb⟩
    have hsb := hbb.size
    have hc' := (hbb.cell (p := ⟨w.heap.size + 1 + 1 + 1, 0, none⟩) l3).trans hc
    have hf' := (hbb.frozen (p := ⟨w.heap.size + 1 + 1 + 1, 0, none⟩) l3).trans hf
    have hd' := (hbb.cell (p := ⟨w.heap.size + 1 + 1, 0, none⟩) l2).trans hd
    have hdf' := (hbb.frozen (p := ⟨w.heap.size + 1 + 1, 0, none⟩) l2).trans hdf
    have hp1' := (hbb.cell (p := ⟨w.heap.size + 1, 0, none⟩) l1).trans hp1
    have hp2' := (hbb.cell (p := ⟨w.heap.size + 1, 1, none⟩) l1).trans hp2
    have hHb := HH.out.1.next (W' := wb) hn (by omega) (hbb.mono hW3)
    clear hc hf hd hdf hp1 hp2
    have l1 : w.heap.size + 1 < wb.heap.size := by omega
    have l2 : w.heap.size + 1 + 1 < wb.heap.size := by omega
    have l3 : w.heap.size + 1 + 1 + 1 < wb.heap.size := by omega
    cases b1
    · have HB := Lib.hid (And.intro hHb hbb)
      clear hHb hbb
      gi_wp2
      refine ⟨by simp [Fence.wide], ?_⟩
      refine (CallsIn.inRound l (callsIn_wide.2 (c2 _ HB.out.1.ring.ring (by omega)).out)).mono ?_
      rintro e wc ⟨rfl, hbc⟩
      have hsc := hbc.size
      have hc2 := (hbc.cell (p := ⟨w.heap.size + 1 + 1 + 1, 0, none⟩) l3).trans hc'
      have hf2 := (hbc.frozen (p := ⟨w.heap.size + 1 + 1 + 1, 0, none⟩) l3).trans hf'
      have hd2 := (hbc.cell (p := ⟨w.heap.size + 1 + 1, 0, none⟩) l2).trans hd'
      have hdf2 := (hbc.frozen (p := ⟨w.heap.size + 1 + 1, 0, none⟩) l2).trans hdf'
      have hp12 := (hbc.cell (p := ⟨w.heap.size + 1, 0, none⟩) l1).trans hp1'
      have hp22 := (hbc.cell (p := ⟨w.heap.size + 1, 1, none⟩) l1).trans hp2'
      have hHc := HB.out.1.next (W' := wc) hn (by omega) (hbc.mono (by omega))
      have hbW : Below W.heap.size W wc := HB.out.2.trans (hbc.mono (by omega))
      clear hc' hf' hd' hdf' hp1' hp2' hbc
      have hnp : ∀ y ∈ pre ++ [x], onP (cy L y) (cy L (y + 1)) p = false := fun y hy => (List.mem_append.1 hy).elim (HH.out.2.1 y) (fun e => by simp at e; subst e; exact HH.out.2.2.1)
      have HC := Lib.hid (And.intro hHc (And.intro hbW hnp))
      clear hHc hbW hnp
      cases b2
      · gi_wp2
        exact ⟨keeps_below HC.out.2.1, Kp2.of HC.out.2.1 (by omega) (by omega), by rw [HH.out.2.2.2]; exact hc2, hf2, hd2, hdf2, ⟨hp12, hp22⟩, HC.out.2.2, HC.out.1⟩
      · have hneg : IntKind.i64.wrap (-s) = -s := by rw [IntKind.wrap_i64]; rcases hfb with h | h <;> rw [h] <;> decide
        gi_wp2
        exact ⟨(keeps_below HC.out.2.1).trans (KeepsOthers.setCell _ _ _), Kp2.put HC.out.2.1 (by omega) (by omega) (by omega) (by omega) _,
          by rw [HH.out.2.2.2]; simpa using World.cell?_setCell_same' _ _ _ (by rw [hc2]; rfl), by rw [World.frozen?_setCell]; exact hf2,
          by rw [World.cell?_setCell_other _ _ _ _ (by simp)]; exact hd2, by rw [World.frozen?_setCell]; exact hdf2, ⟨by rw [World.cell?_setCell_other _ _ _ _ (by simp)]; exact hp12, by rw [World.cell?_setCell_other _ _ _ _ (by simp)]; exact hp22⟩, HC.out.2.2, HC.out.1.put hn (by omega) _⟩
    · have HB := Lib.hid (And.intro hHb hbb)
      clear hHb hbb
      gi_wp2
      exact ⟨(keeps_below HB.out.2).trans (KeepsOthers.setCell _ _ _), rfl, World.cell?_setCell_same' _ _ _ (by rw [hd']; rfl), ⟨x, HH.out.2.2.1⟩, HB.out.1.put hn (by omega) _⟩
  case done =>
    rintro D ys W hD rfl ⟨hc, hf, hd, hdf, ⟨hp1, hp2⟩, hp, hH⟩ hK
    have hW3 := hH.size
    gi_wp2
    have hK' := (KeepsOthers.setCell W ⟨w.heap.size + 1 + 1, 0, none⟩ (.int .i64 (fnd L p (List.range L.length)))).same D _ hK rfl
    refine ⟨by simp, .inl ⟨_, _, rfl, run_takeDeferred hK', ?_⟩⟩
    have hc5 := cell_kept (World.cell?_setCell_same' W ⟨w.heap.size + 1 + 1, 0, none⟩ (.int .i64 (fnd L p (List.range L.length))) (by rw [hd]; rfl)) (grownBy_putObj' _ D (.deferred none)) (fun r e => by cases e; exact ⟨_, hK', rfl⟩)
    refine ⟨.int .i64 (fnd L p (List.range L.length)), ?_, ?_, (hH.below.setCell (p := ⟨w.heap.size + 1 + 1, 0, none⟩) (by simp; omega) _).trans (below_put _ D _ (by omega))⟩
    · simp [results, Try.results75, go_sem, hc5]
    · have hno : onL L p = false := anyF_false (fun i hi => hp i (List.mem_range.2 hi))
      unfold placeL fnd oddL
      rw [hno, oddP_range]
      rfl
  case stop =>
    rintro D c pre W hD hpre ⟨rfl, hd, ⟨x, hx⟩, hH⟩ hK
    gi_wp2
    refine ⟨by simp, .inl ⟨_, _, rfl, run_takeDeferred hK, ?_⟩⟩
    have hc5 := cell_kept hd (grownBy_putObj' _ D (.deferred none)) (fun r e => by cases e; exact ⟨_, hK, rfl⟩)
    refine ⟨.int .i64 0, ?_, ?_, hH.below.trans (below_put _ D _ (by omega))⟩
    · simp [results, Try.results75, go_sem, hc5]
    · have : onL L p = true := anyF_of (i := x % L.length) (Nat.mod_lt _ (by omega)) (by rw [← hx]; rw [cy_mod, show cy L (x % L.length + 1) = cy L (x + 1) by unfold cy; rw [Nat.mod_add_mod]])
      unfold placeL; rw [this]; rfl
end Go.Proofs.Ytgncjpakclbegaa
namespace Go.Proofs.Ytgncjpakclbegaa
open Go.RowKit Go.Shelf Poly
set_option linter.unusedVariables false
attribute [local go_sem] Oper.semAt_some

open Classical in
/-- how many corners are still to come, the first one last -/
noncomputable def restN (A : Nat → Nat) (n : Nat) (v : Value) : Nat :=
  if h : ∃ k, (0 < k ∧ k ≤ n) ∧ v = .pointer (some ⟨A k, 0, none⟩) then n - Classical.choose h else 0
theorem restN_eq {n₀ : Nat} {A : Nat → Nat} {L : List P2} {w : World} (h : Ring n₀ A L w) {k : Nat} (h0 : 0 < k) (hk : k ≤ L.length) : restN A L.length (.pointer (some ⟨A k, 0, none⟩)) = L.length - k := by
  have hex : ∃ j, (0 < j ∧ j ≤ L.length) ∧ Value.pointer (some ⟨A k, 0, none⟩) = .pointer (some ⟨A j, 0, none⟩) := ⟨k, ⟨h0, hk⟩, rfl⟩
  unfold restN
  rw [dif_pos hex]
  obtain ⟨⟨h1, h2⟩, h3⟩ := Classical.choose_spec hex
  have e : A k = A (Classical.choose hex) := by simpa using h3
  have := h.inj _ _ e
  generalize Classical.choose hex = j at *
  have mm : ∀ i, 0 < i → i ≤ L.length → i % L.length = if i = L.length then 0 else i := fun i h0 hi => by
    by_cases e : i = L.length
    · rw [if_pos e, e, Nat.mod_self]
    · rw [if_neg e, Nat.mod_eq_of_lt (by omega)]
  have m1 := mm k h0 hk
  have m2 := mm j h1 h2
  rw [m1, m2] at this
  split at this <;> split at this <;> omega
set_option maxRecDepth 100000 in
set_option maxHeartbeats 4000000 in
theorem iSimple {n₀ : Nat} {A : Nat → Nat} {L : List P2} {w : World} (hR : RingB n₀ A L w) (hn : n₀ ≤ w.heap.size) (hok : okP L = true) :
    Calls Try.prog 104 #[.agg #[.pointer (some ⟨A 0, 0, none⟩)]] w fun e w' => e = .returned (.bool (simple L)) ∧ Below w.heap.size w w' := by
  refine (callsIn_wide (n := 9)).1 ?_
  have HR := Lib.hid (And.intro hR hok)
  have hl := okP_len hok
  clear hR hok
  refine callsIn_of_wp_marks Try.func104 rfl trivial ?_ rfl
  simp only [Try.ntmps104, List.size_toArray, List.length_cons, List.length_nil, Nat.reduceAdd, Nat.reduceSub, Array.replicate_succ, Array.replicate_zero, List.push_toArray, List.append_toArray, List.nil_append, List.cons_append]
  gi_wp2
  refine ⟨by simp [Fence.wide], ?_⟩
  refine ((callsIn_wide.2 (iCorners _ _)).mono ?_)
  rintro e w' ⟨rfl, hw'⟩
  obtain ⟨w3, hw3⟩ : ∃ W, W = w' := ⟨_, rfl⟩
  rw [← hw3] at hw' ⊢
  have hsz : w3.heap.size = w.heap.size + 3 := by rw [hw']; simp
  have hb3 : Below w.heap.size w w3 := by
    rw [hw']
    exact (((Below.refl _ w).alloc (Nat.le_refl _) _).alloc (by simp) _).alloc (by simp; omega) _
  have y0 : w3.cell? ⟨w.heap.size, 0, none⟩ = some (.pointer (some ⟨A 0, 0, none⟩)) := by rw [hw']; simp [go_sem]
  have q1 : w3.cell? ⟨w.heap.size + 1, 0, none⟩ = some (.bool false) := by rw [hw']; simp [go_sem]
  have q2 : w3.frozen? ⟨w.heap.size + 1, 0, none⟩ = false := by rw [hw']; simp [go_sem]
  have y2 : w3.cell? ⟨w.heap.size + 1 + 1, 0, none⟩ = some (.pointer (some ⟨A 0, 0, none⟩)) := by rw [hw']; simp [go_sem]
  clear hw' hw3
  have hgive := corners_stops 8 (by decide) (w.heap.size + 1 + 1) n₀ A L (by omega) w3 (by omega) (by omega) y2 (HR.out.1.below (hb3.mono hn))
  gi_wp2
  refine wpIn_rangeFunc_ownF (F := Fence.wide) rfl (by decide) (gf := 127) (lb := #[.pointer (some ⟨w.heap.size + 1 + 1, 0, none⟩)]) rfl trivial (enters_of Try.func127 (by kernel_rfl) rfl) hgive
    (fun h k => h.t k) (Kp2.b (by omega) (by omega)) (Below.refl _ _) (fun _ => rfl)
    (fun pre W => W.cell? ⟨w.heap.size, 0, none⟩ = some (.pointer (some ⟨A 0, 0, none⟩)) ∧ W.cell? ⟨w.heap.size + 1, 0, none⟩ = some (.bool false) ∧ W.frozen? ⟨w.heap.size + 1, 0, none⟩ = false ∧ (∀ x ∈ pre, ∀ k, x % L.length < k → k < L.length → clash L (x % L.length) k = false) ∧ Hold w n₀ A L w3.heap.size W)
    (fun c pre W => c = .ret ∧ W.cell? ⟨w.heap.size + 1, 0, none⟩ = some (.bool false) ∧ (∃ i k, i < k ∧ k < L.length ∧ clash L i k = true) ∧ Hold w n₀ A L w3.heap.size W)
    (fun s W W' row hs hg hr => ⟨cell_kept hs.1 hg (fun r e => (hr r e).2), cell_kept hs.2.1 hg (fun r e => (hr r e).2), (frozen_kept hs.2.1 hg (fun r e => (hr r e).2)).trans hs.2.2.1, hs.2.2.2.1, hs.2.2.2.2.own (by omega) hg hr⟩)
    (fun c s W W' row hs hg hr => ⟨hs.1, cell_kept hs.2.1 hg (fun r e => (hr r e).2), hs.2.2.1, hs.2.2.2.own (by omega) hg hr⟩)
    ⟨y0, q1, q2, by simp, HR.out.1.below (hb3.mono hn), hb3, Nat.le_refl _⟩
    (fun x => { tmps := #[.agg #[.pointer (some ⟨A 0, 0, none⟩)], .pointer (some ⟨w.heap.size, 0, none⟩), .pointer (some ⟨w.heap.size + 1, 0, none⟩), .pointer (some ⟨A x, 0, none⟩), undef, .agg #[.pointer (some ⟨A 0, 0, none⟩)], .func (.func 127) #[] #[.pointer (some ⟨w.heap.size + 1 + 1, 0, none⟩)], .pointer (some ⟨A x, 0, none⟩), undef, undef, undef, undef, undef, undef, undef, undef, undef, undef, undef, undef, undef, undef, undef], defers := [] }) ?assign ?body ?done ?stop
  case assign =>
    intro l x W K hK
    gi_wp2
    exact hK
  case body =>
    rintro l pre x W ⟨hc, hd, hdf, hp, hH⟩ hlen
    have hv := okP_at HR.out.2
    have hW3 := hH.size
    obtain ⟨y, hy⟩ : ∃ y, x % L.length = y := ⟨_, rfl⟩
    have hyl : y < L.length := by rw [← hy]; exact Nat.mod_lt _ (by omega)
    have hAx : A x = A y := by rw [← hy]; exact (hH.ring.ring.mod x).symm
    obtain ⟨x0, x1, x2⟩ := hH.ring.ring.cells y
    have l1 : A y < W.heap.size := by have := hH.ring.ring.lt y; omega
    have HH := Lib.hid (And.intro hH (And.intro hp hy))
    rw [hAx]
    clear hH hp hy hAx
    gi_wp2
    gi_loopw [4] (fun d wr => ∃ k : Nat, y < k ∧ k ≤ L.length ∧ d = .pointer (some ⟨A k, 0, none⟩) ∧ (∀ j, y < j → j < k → clash L y j = false) ∧ Below W.heap.size W wr) (fun d _ => restN A L.length d)
    case atStart => exact ⟨y + 1, by omega, by omega, rfl, fun j h1 h2 => by omega, Below.refl _ _⟩
    case round =>
      obtain ⟨k, hyk, hkl, rfl, hcl, hb⟩ := hrel
      have hbs := hb.size
      have hRk : RingB n₀ A L wr := HH.out.1.ring.below (hb.mono (by omega))
      have hc' := (hb.cell (p := ⟨w.heap.size, 0, none⟩) (show w.heap.size < W.heap.size by omega)).trans hc
      have hd' := (hb.cell (p := ⟨w.heap.size + 1, 0, none⟩) (show w.heap.size + 1 < W.heap.size by omega)).trans hd
      have hdf' := (hb.frozen (p := ⟨w.heap.size + 1, 0, none⟩) (show w.heap.size + 1 < W.heap.size by omega)).trans hdf
      have hne := fun b => hRk.neq k 0 (b := b)
      rw [Nat.zero_mod] at hne
      by_cases hlast : k = L.length
      · have hne' := hne false (by rw [hlast, Nat.mod_self]; rfl)
        have HK := Lib.hid (And.intro hlast (And.intro hb hcl))
        clear hne hlast hRk hcl hb
        gi_wp2
        have hHr := HH.out.1.next (W' := wr) hn (by omega) (HK.out.2.1.mono hW3)
        exact ⟨keeps_below HK.out.2.1, Kp2.of HK.out.2.1 (by omega) (by omega), hc', hd', hdf', fun z hz j h1 h2 => (List.mem_append.1 hz).elim (fun h => HH.out.2.1 z h j h1 h2) (fun e => by
          simp at e
          subst e
          rw [HH.out.2.2] at h1 ⊢
          exact HK.out.2.2 j h1 (by have := HK.out.1; omega)), hHr⟩
      · have hne' := hne true (by rw [Nat.mod_eq_of_lt (show k < L.length by omega), decide_eq_false (by omega)]; rfl)
        have hkl' : k < L.length := by omega
        have hnr : n₀ ≤ wr.heap.size := by omega
        have cc := Lib.hid (iClash hRk hnr hv (by omega) hyk hkl')
        obtain ⟨z0, z1, z2⟩ := hRk.ring.cells k
        have l2 : A k < wr.heap.size := by have := hRk.ring.lt k; omega
        obtain ⟨b, hbb⟩ : ∃ b, clash L y k = b := ⟨_, rfl⟩
        rw [hbb] at cc
        have HK := Lib.hid (And.intro hbb (And.intro hb (And.intro hcl hRk)))
        clear hne hlast hRk hcl hb hbb
        gi_wp2
        refine ⟨by simp [Fence.wide], ?_⟩
        refine (CallsIn.inRound l (callsIn_wide.2 cc.out)).mono ?_
        rintro e wb ⟨rfl, hbb⟩
        have hsb := hbb.size
        have hd2 := (hbb.cell (p := ⟨w.heap.size + 1, 0, none⟩) (show w.heap.size + 1 < wr.heap.size by omega)).trans hd'
        have hdf2 := (hbb.frozen (p := ⟨w.heap.size + 1, 0, none⟩) (show w.heap.size + 1 < wr.heap.size by omega)).trans hdf'
        have hz2 := (hbb.cell (p := ⟨A k, 2, none⟩) l2).trans z2
        have hbW : Below W.heap.size W wb := HK.out.2.1.trans (hbb.mono hbs)
        have HW := Lib.hid (And.intro hbb hbW)
        clear hbb hbW
        cases b
        · gi_wp2
          go_roundw
          case rel => exact ⟨k + 1, by omega, by omega, rfl, fun j h1 h2 => by
            by_cases e : j = k
            · subst e; exact HK.out.1
            · exact HK.out.2.2.1 j h1 (by omega), HW.out.2⟩
          case measure => rw [restN_eq HK.out.2.2.2.ring (by omega) (by omega), restN_eq HK.out.2.2.2.ring (by omega) (by omega)]; omega
        · gi_wp2
          have hHb := HH.out.1.next (W' := wb) hn (by omega) (HW.out.2.mono hW3)
          exact ⟨(keeps_below HW.out.2).trans (KeepsOthers.setCell _ _ _), rfl, World.cell?_setCell_same' _ _ _ (by rw [hd2]; rfl), ⟨y, k, hyk, hkl', HK.out.1⟩, hHb.put hn (by omega) _⟩
  case done =>
    rintro D ys W hD rfl ⟨hc, hd, hf, hp, hH⟩ hK
    have hW3 := hH.size
    gi_wp2
    have hK' := (KeepsOthers.setCell W ⟨w.heap.size + 1, 0, none⟩ (.bool true)).same D _ hK rfl
    refine ⟨by simp, .inl ⟨_, _, rfl, run_takeDeferred hK', ?_⟩⟩
    have hc5 := cell_kept (World.cell?_setCell_same' W ⟨w.heap.size + 1, 0, none⟩ (.bool true) (by rw [hd]; rfl)) (grownBy_putObj' _ D (.deferred none)) (fun r e => by cases e; exact ⟨_, hK', rfl⟩)
    refine ⟨.bool true, ?_, ?_, (hH.below.setCell (p := ⟨w.heap.size + 1, 0, none⟩) (by simp) _).trans (below_put _ D _ (by omega))⟩
    · simp [results, Try.results104, go_sem, hc5]
    · rw [simple_of (fun i k hik hkl => by have := hp i (List.mem_range.2 (by omega)) k; rw [Nat.mod_eq_of_lt (show i < L.length by omega)] at this; exact this hik hkl)]
  case stop =>
    rintro D c pre W hD hpre ⟨rfl, hd, ⟨i, k, hik, hkl, hx⟩, hH⟩ hK
    gi_wp2
    refine ⟨by simp, .inl ⟨_, _, rfl, run_takeDeferred hK, ?_⟩⟩
    have hc5 := cell_kept hd (grownBy_putObj' _ D (.deferred none)) (fun r e => by cases e; exact ⟨_, hK, rfl⟩)
    refine ⟨.bool false, ?_, ?_, hH.below.trans (below_put _ D _ (by omega))⟩
    · simp [results, Try.results104, go_sem, hc5]
    · rw [simple_no hik hkl hx]
end Go.Proofs.Ytgncjpakclbegaa
namespace Go.Proofs.Ytgncjpakclbegaa
open Go.RowKit Poly
set_option linter.unusedVariables false

theorem pv_prod {p : P2} {b : Bool} (h : pvP p = b) : Pt.pv p.1 p.2 = b := h
theorem pointsValidS (p : Option Addr) (c : Nat) (L : List P2) (b : Bool) (w : World) (h : Ints w p (fl L)) (hl : L.length ≤ 1000) (hb : L.all pvP = b) :
    Calls Try.prog 86 #[.slice p L.length c] w fun e w' => e = .returned (.bool b) ∧ Below w.heap.size w w' := by
  have H := Lib.hid h
  have HB := Lib.hid hb
  clear h hb
  go_enter Try.func86, Try.ntmps86
  go_wp2
  go_loopw [4, 7] (fun _ i wr => ∃ k : Nat, k ≤ L.length ∧ i = .int .i64 k ∧ Hid (∀ j, j < k → pvP (cy L j) = true) ∧ Below w.heap.size w wr) (fun _ i _ => L.length - (intOf i).toNat)
  case atStart => exact ⟨0, Nat.zero_le _, rfl, Lib.hid (fun j hj => by omega), (by repeat (first | assumption | exact Below.refl _ _ | (refine below_chain ?_ (by assumption) (by first | omega | (simp <;> omega) | simp)) | (refine Below.alloc ?_ (by first | omega | (simp <;> omega) | simp) _) | (apply below_drewN) | (apply below_drew) | (refine Below.setCell ?_ (by first | omega | (simp <;> omega) | simp) _)))⟩
  case round =>
    obtain ⟨k, hk, rfl, hv, hb⟩ := hrel
    by_cases hlt : k < L.length
    · obtain ⟨B, o, rfl, hB, c0, c1⟩ := (H.out.below hb).pt hlt
      have hbs := hb.size
      by_cases hp : pvP (cy L k) = true
      · have cv := fun w => Lib.hid (ipv_is (cy L k).1 (cy L k).2 true w hp)
        have hn2 : Hid (∀ j, j < k + 1 → pvP (cy L j) = true) := Lib.hid (fun j hj => by
          by_cases e : j = k
          · subst e; exact hp
          · exact hv.out j (by omega))
        clear hp
        go_wp2_with (go_at_call 74; (with_reducible refine ((cv _).out).mono ?_); rintro e wn ⟨rfl, hbn⟩)
        go_roundw
        case rel => exact ⟨k + 1, by omega, by go_num, hn2, (by repeat (first | assumption | exact Below.refl _ _ | (refine below_chain ?_ (by assumption) (by first | omega | (simp <;> omega) | simp)) | (refine Below.alloc ?_ (by first | omega | (simp <;> omega) | simp) _) | (apply below_drewN) | (apply below_drew) | (refine Below.setCell ?_ (by first | omega | (simp <;> omega) | simp) _)))⟩
        case measure => simp [intOf]; omega
      · have hp' : pvP (cy L k) = false := by simpa using hp
        have cv := fun w => Lib.hid (ipv_is (cy L k).1 (cy L k).2 false w hp')
        have hn2 : Hid (b = false) := Lib.hid (by
          rw [← HB.out]
          cases e : L.all pvP with
          | false => rfl
          | true =>
            have := List.all_eq_true.1 e _ (List.mem_of_getElem? (cy_lt hlt))
            rw [this] at hp'; cases hp')
        clear hp hp'
        go_wp2_with (go_at_call 74; (with_reducible refine ((cv _).out).mono ?_); rintro e wn ⟨rfl, hbn⟩)
        go_ret
        exact ⟨ret_bool hn2.out.symm, (by repeat (first | assumption | exact Below.refl _ _ | (refine below_chain ?_ (by assumption) (by first | omega | (simp <;> omega) | simp)) | (refine Below.alloc ?_ (by first | omega | (simp <;> omega) | simp) _) | (apply below_drewN) | (apply below_drew) | (refine Below.setCell ?_ (by first | omega | (simp <;> omega) | simp) _)))⟩
    · have e : k = L.length := by omega
      subst e
      have : b = true := by
        rw [← HB.out, List.all_eq_true]
        intro q hq
        obtain ⟨i, hi, rfl⟩ := List.mem_iff_getElem.1 hq
        have := hv.out i hi
        unfold cy at this
        rwa [Nat.mod_eq_of_lt hi, getD_at hi] at this
      subst this
      go_wp2
      go_ret
      exact ⟨rfl, hb⟩
/-- a list that is refused -/
theorem iOf_no (p : Option Addr) (c : Nat) (L : List P2) (w : World) (h : Ints w p (fl L)) (hl : L.length ≤ 4000000000000000000) (hok : okP L = false) :
    Calls Try.prog 65 #[.slice p L.length c] w fun e w' => e = .returned (.tuple #[.agg #[.pointer none], .bool false]) ∧ Below w.heap.size w w' := by
  have H := Lib.hid h
  by_cases h3 : (L.length : Int) < 3
  · clear h hok
    go_enter Try.func65, Try.ntmps65
    go_wp2_with fail
    exact bodyPost_ret (v := .tuple #[.agg #[.pointer none], .bool false]) (by simp [results, Try.results65, go_sem]) rfl ⟨rfl, (by repeat (first | assumption | exact Below.refl _ _ | (refine below_chain ?_ (by assumption) (by first | omega | (simp <;> omega) | simp)) | (refine Below.alloc ?_ (by first | omega | (simp <;> omega) | simp) _) | (apply below_drewN) | (apply below_drew) | (refine Below.setCell ?_ (by first | omega | (simp <;> omega) | simp) _)))⟩
  · by_cases h12 : (12 : Int) < (L.length : Int)
    · clear h hok
      go_enter Try.func65, Try.ntmps65
      go_wp2_with fail
      exact bodyPost_ret (v := .tuple #[.agg #[.pointer none], .bool false]) (by simp [results, Try.results65, go_sem]) rfl ⟨rfl, (by repeat (first | assumption | exact Below.refl _ _ | (refine below_chain ?_ (by assumption) (by first | omega | (simp <;> omega) | simp)) | (refine Below.alloc ?_ (by first | omega | (simp <;> omega) | simp) _) | (apply below_drewN) | (apply below_drew) | (refine Below.setCell ?_ (by first | omega | (simp <;> omega) | simp) _)))⟩
    · have hall : L.all pvP = false := by
        unfold okP at hok
        rw [decide_eq_true (by omega), Bool.true_and] at hok
        exact hok
      have c1 := fun w h => Lib.hid (pointsValidS p c L false w h (by omega) hall)
      clear h hok hall
      go_enter Try.func65, Try.ntmps65
      go_wp2_with ((go_at_call 86; (with_reducible refine ((c1 _ ?_).out).mono ?_); (focus ((exact H.out.below (by repeat (first | assumption | exact Below.refl _ _ | (refine below_chain ?_ (by assumption) (by first | omega | (simp <;> omega) | simp)) | (refine Below.alloc ?_ (by first | omega | (simp <;> omega) | simp) _) | (apply below_drewN) | (apply below_drew) | (refine Below.setCell ?_ (by first | omega | (simp <;> omega) | simp) _)))); done)); rintro e wa ⟨rfl, hb_wa⟩; have hs_wa := hb_wa.size; (try simp at hs_wa)); obtain ⟨hc_wa, hf_wa⟩ := bcell hb_wa; have hz_wa : w.heap.size < wa.heap.size := by omega)
      exact bodyPost_ret (v := .tuple #[.agg #[.pointer none], .bool false]) (by simp [results, Try.results65, go_sem, *]) rfl ⟨rfl, (by repeat (first | assumption | exact Below.refl _ _ | (refine below_chain ?_ (by assumption) (by first | omega | (simp <;> omega) | simp)) | (refine Below.alloc ?_ (by first | omega | (simp <;> omega) | simp) _) | (apply below_drewN) | (apply below_drew) | (refine Below.setCell ?_ (by first | omega | (simp <;> omega) | simp) _)))⟩
/-- the corners that are linked so far -/
def Chain (S : Nat) (L : List P2) (i : Nat) (W : World) : Prop := ∀ k, k ≤ i → W.heap[S + 2 * k]? = some (.cells #[.int .i64 (cy L k).1, .int .i64 (cy L k).2, .pointer (if k = i then none else some ⟨S + 2 * (k + 1), 0, none⟩)] 103 (0, 0))
set_option maxHeartbeats 4000000 in
set_option maxRecDepth 100000 in
theorem iOf_yes (p : Option Addr) (c : Nat) (L : List P2) (w : World) (h : Ints w p (fl L)) (hc : L.length ≤ c) (hok : okP L = true) :
    Calls Try.prog 65 #[.slice p L.length c] w fun e w' => ∃ A : Nat → Nat, (e = .returned (.tuple #[.agg #[.pointer (some ⟨A 0, 0, none⟩)], .bool true]) ∧ RingB w'.heap.size A L w') ∧ Below w.heap.size w w' := by
  obtain ⟨hl3, hl12⟩ := okP_len hok
  have hall : L.all pvP = true := by unfold okP at hok; rw [Bool.and_eq_true] at hok; exact hok.2
  have c1 := fun w h => Lib.hid (pointsValidS p c L true w h (by omega) hall)
  obtain ⟨B, o, rfl, hB, e0, e1⟩ := h.pt (i := 0) (by omega)
  have H := Lib.hid (And.intro h hok)
  have h3 : ¬ (L.length : Int) < 3 := by omega
  have h12 : ¬ (12 : Int) < (L.length : Int) := by omega
  clear h hok hall
  go_enter Try.func65, Try.ntmps65
  simp only [Nat.zero_mul, Nat.add_zero] at e0 e1
  go_upto_region 3 with ((go_at_call 86; (with_reducible refine ((c1 _ ?_).out).mono ?_); (focus ((exact H.out.1.below (by repeat (first | assumption | exact Below.refl _ _ | (refine below_chain ?_ (by assumption) (by first | omega | (simp <;> omega) | simp)) | (refine Below.alloc ?_ (by first | omega | (simp <;> omega) | simp) _) | (apply below_drewN) | (apply below_drew) | (refine Below.setCell ?_ (by first | omega | (simp <;> omega) | simp) _)))); done)); rintro e wa ⟨rfl, hb_wa⟩; have hs_wa := hb_wa.size; (try simp at hs_wa)); obtain ⟨hc_wa, hf_wa⟩ := bcell hb_wa; have hz_wa : w.heap.size < wa.heap.size := by omega)
  have r1 : wa.cell? ⟨w.heap.size, 0, none⟩ = some (.pointer none) := by rw [hc_wa _ _ (by simp)]; simp [go_sem]
  have r2 : wa.frozen? ⟨w.heap.size, 0, none⟩ = false := by rw [hf_wa _ _ (by simp)]; simp [go_sem]
  have hb0 : Below w.heap.size w wa := (by repeat (first | assumption | exact Below.refl _ _ | (refine below_chain ?_ (by assumption) (by first | omega | (simp <;> omega) | simp)) | (refine Below.alloc ?_ (by first | omega | (simp <;> omega) | simp) _) | (apply below_drewN) | (apply below_drew) | (refine Below.setCell ?_ (by first | omega | (simp <;> omega) | simp) _)))
  have d0 := (hb0.cell (p := ⟨B, o, none⟩) hB).trans e0
  have d1 := (hb0.cell (p := ⟨B, o + 1, none⟩) hB).trans e1
  have hBa : B < wa.heap.size := by omega
  clear hc_wa hf_wa hb_wa c1 e0 e1 h3 h12
  have hc1 : ¬ c = 1 := by omega
  obtain ⟨S, hS⟩ : ∃ S, wa.heap.size = S := ⟨_, rfl⟩
  have hch0 : Chain S L 0 (wa.alloc (.cells #[.int .i64 (cy L 0).1, .int .i64 (cy L 0).2, .pointer none] 103)) := fun k hk => by
    obtain rfl : k = 0 := by omega
    rw [if_pos rfl, Nat.mul_zero, Nat.add_zero, ← hS]
    exact Deep.blk_alloc_new _ _
  have HC0 := Lib.hid hch0
  have HA := Lib.hid (And.intro hb0 (And.intro r1 r2))
  clear hch0 hb0 r1 r2
  rw [hS] at hBa hz_wa hs_wa
  go_wp2_with fail
  clear d0 d1
  go_loopw [5, 31] (fun last i wr => ∃ k : Nat, k + 1 ≤ L.length ∧ last = .pointer (some ⟨S + 2 * k, 0, none⟩) ∧ i = .int .i64 k ∧ wr.heap.size = S + 1 + 2 * k ∧ Chain S L k wr ∧ Below S wa wr) (fun _ i _ => L.length - (intOf i).toNat)
  case atStart => exact ⟨0, by omega, rfl, rfl, by simp [hS], HC0.out, by rw [← hS]; exact (Below.refl _ _).alloc (Nat.le_refl _) _⟩
  case round =>
    clear HC0
    obtain ⟨k, hk, rfl, rfl, hsz, hch, hb⟩ := hrel
    have hblk := hch k (Nat.le_refl _)
    rw [if_pos rfl] at hblk
    have hltS : S + 2 * k < wr.heap.size := by omega
    have fz : wr.frozen? ⟨S + 2 * k, 2, none⟩ = false := by simp [World.frozen?, hblk]
    have cz : wr.cell? ⟨S + 2 * k, 2, none⟩ = some (.pointer none) := by simp [World.cell?, hblk]
    by_cases hlt : k + 1 < L.length
    · obtain ⟨B', o', e', hB', g0, g1⟩ := ((H.out.1.below HA.out.1).below (hb.mono (by omega))).pt hlt
      simp at e'
      obtain ⟨rfl, rfl⟩ := e'
      rw [show o + (k + 1) * 2 = o + 2 + k * 2 by omega] at g0 g1
      have hlt' : (k : Int) < ((L.length - 1 : Nat) : Int) := by omega
      have HK := Lib.hid (And.intro hblk (And.intro hch hb))
      clear hblk hch hb
      go_wp2_with fail
      go_roundw
      case rel =>
        refine ⟨k + 1, by omega, by rw [show S + 1 + 2 * k + 1 = S + 2 * (k + 1) by omega], by go_num, by simp; omega, ?_, ?_⟩
        · intro j hj
          obtain ⟨V, hV⟩ : ∃ V, (wr.setCell ⟨S + 2 * k, 2, none⟩ (.pointer (some ⟨S + 1 + 2 * k + 1, 0, none⟩))).alloc (.cells #[.int .i64 (cy L (k + 1)).1, .int .i64 (cy L (k + 1)).2] 31) = V := ⟨_, rfl⟩
          have hVs : V.heap.size = S + 2 * (k + 1) := by rw [← hV]; simp; omega
          rw [hV]
          by_cases e1 : j = k + 1
          · subst e1
            rw [if_pos rfl, ← hVs]
            exact Deep.blk_alloc_new _ _
          · rw [if_neg e1, Deep.blk_alloc_lt _ _ _ (by omega), ← hV, Deep.blk_alloc_lt _ _ _ (by simp; omega)]
            by_cases e2 : j = k
            · subst e2
              rw [Joins.block_setCell HK.out.1, show S + 1 + 2 * j + 1 = S + 2 * (j + 1) by omega]
              simp
            · rw [Deep.blk_setCell_other _ _ _ _ (show S + 2 * j ≠ S + 2 * k by omega), HK.out.2.1 j (by omega), if_neg e2]
        · exact ((HK.out.2.2.setCell (p := ⟨S + 2 * k, 2, none⟩) (show S ≤ S + 2 * k by omega) _).alloc (by simp; omega) _).alloc (by simp; omega) _
      case measure => simp [intOf]; omega
    · have hlt' : ¬ (k : Int) < ((L.length - 1 : Nat) : Int) := by omega
      have rr1 := (hb.cell (p := ⟨w.heap.size, 0, none⟩) (show w.heap.size < S by omega)).trans HA.out.2.1
      have rr2 := (hb.frozen (p := ⟨w.heap.size, 0, none⟩) (show w.heap.size < S by omega)).trans HA.out.2.2
      have hne : S + 2 * k ≠ w.heap.size := by omega
      have hne' : w.heap.size ≠ S + 2 * k := by omega
      have HK := Lib.hid (And.intro hblk (And.intro hch hb))
      clear hblk hch hb
      go_wp2_with fail
      refine bodyPost_ret (v := .tuple #[.agg #[.pointer (some ⟨S, 0, none⟩)], .bool true]) (by simp [results, Try.results65, go_sem, *]) rfl ?_
      have hk1 : k + 1 = L.length := by omega
      have hpos : 0 < L.length := by omega
      have hszf : ((wr.setCell ⟨S + 2 * k, 2, none⟩ (.pointer (some ⟨S, 0, none⟩))).setCell ⟨w.heap.size, 0, none⟩ (.pointer (some ⟨S, 0, none⟩))).heap.size = S + 1 + 2 * k := by simp [hsz]
      refine ⟨⟨fun j => S + 2 * (j % L.length), by simp, ?_⟩, ?_⟩
      · refine RingB.of (fun j => ?_) (fun j => ?_) (fun j => by rw [Nat.add_mod_right]) (fun i j e => by omega)
        · have := Nat.mod_lt j hpos
          rw [hszf]; omega
        · have hm := Nat.mod_lt j hpos
          obtain ⟨m, hme⟩ : ∃ m, j % L.length = m := ⟨_, rfl⟩
          rw [← cy_mod j, hme]
          rw [hme] at hm
          rw [Deep.blk_setCell_other _ _ _ _ (show S + 2 * m ≠ w.heap.size by omega)]
          by_cases e : m = k
          · subst e
            have h1 : (j + 1) % L.length = 0 := by rw [Nat.add_mod, hme, Nat.mod_eq_of_lt (show 1 < L.length by omega), hk1, Nat.mod_self]
            rw [Joins.block_setCell HK.out.1, h1]
            simp
          · have h1 : (j + 1) % L.length = m + 1 := by rw [Nat.add_mod, hme, Nat.mod_eq_of_lt (show 1 < L.length by omega), Nat.mod_eq_of_lt (by omega)]
            rw [Deep.blk_setCell_other _ _ _ _ (show S + 2 * m ≠ S + 2 * k by omega), HK.out.2.1 m (by omega), if_neg e, h1]
      · have hb1 : Below w.heap.size w wr := HA.out.1.trans (HK.out.2.2.mono (by omega))
        exact (hb1.setCell (p := ⟨S + 2 * k, 2, none⟩) (show w.heap.size ≤ S + 2 * k by omega) _).setCell (p := ⟨w.heap.size, 0, none⟩) (Nat.le_refl _) _
end Go.Proofs.Ytgncjpakclbegaa
namespace Go.Proofs.Ytgncjpakclbegaa
open Go.RowKit Poly
set_option linter.unusedVariables false

section
variable {p : Option Addr} {c : Nat} {L : List P2} {w : World}
theorem polyV_ok (h : polyV L = true) : okP L = true := by unfold polyV at h; rw [Bool.and_eq_true] at h; exact h.1
theorem polyV_simple (h : polyV L = true) : simple L = true := by unfold polyV at h; rw [Bool.and_eq_true] at h; exact h.2
set_option maxHeartbeats 2000000 in
theorem iSimpleOf_no (h : Ints w p (fl L)) (hc : L.length ≤ c) (hl : L.length ≤ 4000000000000000000) (hv : polyV L = false) :
    Calls Try.prog 61 #[.slice p L.length c] w fun e w' => e = .returned (.tuple #[.agg #[.pointer none], .bool false]) ∧ Below w.heap.size w w' := by
  have H := Lib.hid h
  cases hok : okP L
  · have c1 := fun w h => Lib.hid (iOf_no p c L w h hl hok)
    clear h hv hok
    go_enter Try.func61, Try.ntmps61
    go_wp2_with ((go_at_call 65; (with_reducible refine ((c1 _ ?_).out).mono ?_); (focus ((exact H.out.below (by repeat (first | assumption | exact Below.refl _ _ | (refine below_chain ?_ (by assumption) (by first | omega | (simp <;> omega) | simp)) | (refine Below.alloc ?_ (by first | omega | (simp <;> omega) | simp) _) | (apply below_drewN) | (apply below_drew) | (refine Below.setCell ?_ (by first | omega | (simp <;> omega) | simp) _)))); done)); rintro e wa ⟨rfl, hb_wa⟩; have hs_wa := hb_wa.size; (try simp at hs_wa)); obtain ⟨hc_wa, hf_wa⟩ := bcell hb_wa; (try have hz_wa : w.heap.size < wa.heap.size := by omega))
    exact bodyPost_ret (v := .tuple #[.agg #[.pointer none], .bool false]) (by simp [results, Try.results61, go_sem, *]) rfl ⟨rfl, (by repeat (first | assumption | exact Below.refl _ _ | (refine below_chain ?_ (by assumption) (by first | omega | (simp <;> omega) | simp)) | (refine Below.alloc ?_ (by first | omega | (simp <;> omega) | simp) _) | (apply below_drewN) | (apply below_drew) | (refine Below.setCell ?_ (by first | omega | (simp <;> omega) | simp) _)))⟩
  · have hs : simple L = false := by unfold polyV at hv; rw [hok, Bool.true_and] at hv; exact hv
    have c1 := fun w h => Lib.hid (iOf_yes p c L w h hc hok)
    have c2 := fun (A : Nat → Nat) (n₀ : Nat) w h hn => Lib.hid (iSimple (n₀ := n₀) (A := A) (L := L) (w := w) h hn hok)
    rw [hs] at c2
    clear h hv hok hs
    go_enter Try.func61, Try.ntmps61
    go_wp2_with (first | ((go_at_call 65; (with_reducible refine ((c1 _ ?_).out).mono ?_); (focus ((exact H.out.below (by repeat (first | assumption | exact Below.refl _ _ | (refine below_chain ?_ (by assumption) (by first | omega | (simp <;> omega) | simp)) | (refine Below.alloc ?_ (by first | omega | (simp <;> omega) | simp) _) | (apply below_drewN) | (apply below_drew) | (refine Below.setCell ?_ (by first | omega | (simp <;> omega) | simp) _)))); done)); rintro e wa ⟨A, ⟨rfl, hR⟩, hb_wa⟩; have hs_wa := hb_wa.size; (try simp at hs_wa)); obtain ⟨hc_wa, hf_wa⟩ := bcell hb_wa; (try have hz_wa : w.heap.size < wa.heap.size := by omega)) | ((go_at_call 104; (with_reducible refine ((c2 A wa.heap.size _ ?_ ?_).out).mono ?_); (focus ((exact hR.below ((Below.refl _ _).alloc (Nat.le_refl _) _)); done)); (focus (((simp <;> omega)); done)); rintro e wb ⟨rfl, hb_wb⟩; have hs_wb := hb_wb.size; (try simp at hs_wb)); obtain ⟨hc_wb, hf_wb⟩ := bcell hb_wb; (try have hz_wb : w.heap.size < wb.heap.size := by omega)))
    have k0 : wa.cell? ⟨w.heap.size, 0, none⟩ = some (.pointer none) := by rw [hc_wa _ _ (by simp)]; simp [go_sem]
    have k1 : wb.cell? ⟨w.heap.size, 0, none⟩ = some (.pointer none) := (hc_wb _ _ (by simp; omega)).trans (cell_alloc_keep _ k0)
    exact bodyPost_ret (v := .tuple #[.agg #[.pointer none], .bool false]) (by simp [results, Try.results61, go_sem, *]) rfl ⟨rfl, (by repeat (first | assumption | exact Below.refl _ _ | (refine below_chain ?_ (by assumption) (by first | omega | (simp <;> omega) | simp)) | (refine Below.alloc ?_ (by first | omega | (simp <;> omega) | simp) _) | (apply below_drewN) | (apply below_drew) | (refine Below.setCell ?_ (by first | omega | (simp <;> omega) | simp) _)))⟩
set_option maxHeartbeats 2000000 in
theorem iSimpleOf_yes (h : Ints w p (fl L)) (hc : L.length ≤ c) (hv : polyV L = true) :
    Calls Try.prog 61 #[.slice p L.length c] w fun e w' => ∃ A : Nat → Nat, (e = .returned (.tuple #[.agg #[.pointer (some ⟨A 0, 0, none⟩)], .bool true]) ∧ RingB w'.heap.size A L w') ∧ Below w.heap.size w w' := by
  have H := Lib.hid h
  have hok := polyV_ok hv
  have hs := polyV_simple hv
  have c1 := fun w h => Lib.hid (iOf_yes p c L w h hc hok)
  have c2 := fun (A : Nat → Nat) (n₀ : Nat) w h hn => Lib.hid (iSimple (n₀ := n₀) (A := A) (L := L) (w := w) h hn hok)
  rw [hs] at c2
  clear h hv hok hs
  go_enter Try.func61, Try.ntmps61
  go_wp2_with (first | ((go_at_call 65; (with_reducible refine ((c1 _ ?_).out).mono ?_); (focus ((exact H.out.below (by repeat (first | assumption | exact Below.refl _ _ | (refine below_chain ?_ (by assumption) (by first | omega | (simp <;> omega) | simp)) | (refine Below.alloc ?_ (by first | omega | (simp <;> omega) | simp) _) | (apply below_drewN) | (apply below_drew) | (refine Below.setCell ?_ (by first | omega | (simp <;> omega) | simp) _)))); done)); rintro e wa ⟨A, ⟨rfl, hR⟩, hb_wa⟩; have hs_wa := hb_wa.size; (try simp at hs_wa)); obtain ⟨hc_wa, hf_wa⟩ := bcell hb_wa; (try have hz_wa : w.heap.size < wa.heap.size := by omega)) | ((go_at_call 104; (with_reducible refine ((c2 A wa.heap.size _ ?_ ?_).out).mono ?_); (focus ((exact hR.below ((Below.refl _ _).alloc (Nat.le_refl _) _)); done)); (focus (((simp <;> omega)); done)); rintro e wb ⟨rfl, hb_wb⟩; have hs_wb := hb_wb.size; (try simp at hs_wb)); obtain ⟨hc_wb, hf_wb⟩ := bcell hb_wb; (try have hz_wb : w.heap.size < wb.heap.size := by omega)))
  have k0 : wa.cell? ⟨w.heap.size, 0, none⟩ = some (.pointer none) := by rw [hc_wa _ _ (by simp)]; simp [go_sem]
  have k1 : wb.cell? ⟨w.heap.size, 0, none⟩ = some (.pointer none) := (hc_wb _ _ (by simp; omega)).trans (cell_alloc_keep _ k0)
  refine bodyPost_ret (v := .tuple #[.agg #[.pointer (some ⟨A 0, 0, none⟩)], .bool true]) (by simp [results, Try.results61, go_sem, *]) rfl ⟨A, ⟨rfl, ?_⟩, (by repeat (first | assumption | exact Below.refl _ _ | (refine below_chain ?_ (by assumption) (by first | omega | (simp <;> omega) | simp)) | (refine Below.alloc ?_ (by first | omega | (simp <;> omega) | simp) _) | (apply below_drewN) | (apply below_drew) | (refine Below.setCell ?_ (by first | omega | (simp <;> omega) | simp) _)))⟩
  have hRb : RingB wa.heap.size A L wb := hR.below (((Below.refl _ _).alloc (Nat.le_refl _) _).trans (hb_wb.mono (by simp)))
  exact (hRb.put k1 _).up (by simp; omega)

set_option maxHeartbeats 2000000 in
theorem iPolyValid_no (h : Ints w p (fl L)) (hc : L.length ≤ c) (hl : L.length ≤ 4000000000000000000) (hv : polyV L = false) :
    Calls Try.prog 18 #[.slice p L.length c] w fun e w' => e = .returned (.bool false) ∧ Below w.heap.size w w' := by
  have H := Lib.hid h
  have c1 := fun w h => Lib.hid (iSimpleOf_no (p := p) (c := c) (L := L) (w := w) h hc hl hv)
  clear h hv
  go_enter Try.func18, Try.ntmps18
  go_wp2_with ((go_at_call 61; (with_reducible refine ((c1 _ ?_).out).mono ?_); (focus ((exact H.out.below (by repeat (first | assumption | exact Below.refl _ _ | (refine below_chain ?_ (by assumption) (by first | omega | (simp <;> omega) | simp)) | (refine Below.alloc ?_ (by first | omega | (simp <;> omega) | simp) _) | (apply below_drewN) | (apply below_drew) | (refine Below.setCell ?_ (by first | omega | (simp <;> omega) | simp) _)))); done)); rintro e wa ⟨rfl, hb_wa⟩; have hs_wa := hb_wa.size; (try simp at hs_wa)); obtain ⟨hc_wa, hf_wa⟩ := bcell hb_wa; (try have hz_wa : w.heap.size < wa.heap.size := by omega))
  exact bodyPost_ret (v := .bool false) (by simp [results, Try.results18, go_sem, *]) rfl ⟨rfl, (by repeat (first | assumption | exact Below.refl _ _ | (refine below_chain ?_ (by assumption) (by first | omega | (simp <;> omega) | simp)) | (refine Below.alloc ?_ (by first | omega | (simp <;> omega) | simp) _) | (apply below_drewN) | (apply below_drew) | (refine Below.setCell ?_ (by first | omega | (simp <;> omega) | simp) _)))⟩
set_option maxHeartbeats 2000000 in
theorem iPolyValid_yes (h : Ints w p (fl L)) (hc : L.length ≤ c) (hv : polyV L = true) :
    Calls Try.prog 18 #[.slice p L.length c] w fun e w' => e = .returned (.bool true) ∧ Below w.heap.size w w' := by
  have H := Lib.hid h
  have hok : okP L = true := polyV_ok hv
  have c1 := fun w h => Lib.hid (iSimpleOf_yes (p := p) (c := c) (L := L) (w := w) h hc hv)
  have c2 := fun (A : Nat → Nat) (n₀ : Nat) w h hn => Lib.hid (iSimple (n₀ := n₀) (A := A) (L := L) (w := w) h hn hok)
  clear h hv hok
  go_enter Try.func18, Try.ntmps18
  go_wp2_with (first | ((go_at_call 61; (with_reducible refine ((c1 _ ?_).out).mono ?_); (focus ((exact H.out.below (by repeat (first | assumption | exact Below.refl _ _ | (refine below_chain ?_ (by assumption) (by first | omega | (simp <;> omega) | simp)) | (refine Below.alloc ?_ (by first | omega | (simp <;> omega) | simp) _) | (apply below_drewN) | (apply below_drew) | (refine Below.setCell ?_ (by first | omega | (simp <;> omega) | simp) _)))); done)); rintro e wa ⟨A, ⟨rfl, hR⟩, hb_wa⟩; have hs_wa := hb_wa.size; (try simp at hs_wa)); obtain ⟨hc_wa, hf_wa⟩ := bcell hb_wa; (try have hz_wa : w.heap.size < wa.heap.size := by omega)) | ((go_at_call 104; (with_reducible refine ((c2 A wa.heap.size _ ?_ ?_).out).mono ?_); (focus ((exact hR.below ((Below.refl _ _).alloc (Nat.le_refl _) _)); done)); (focus (((simp <;> omega)); done)); rintro e wb ⟨rfl, hb_wb⟩; have hs_wb := hb_wb.size; (try simp at hs_wb)); obtain ⟨hc_wb, hf_wb⟩ := bcell hb_wb; (try have hz_wb : w.heap.size < wb.heap.size := by omega)))
  exact bodyPost_ret (v := .bool true) (by simp [results, Try.results18, go_sem, *]) rfl ⟨rfl, (by repeat (first | assumption | exact Below.refl _ _ | (refine below_chain ?_ (by assumption) (by first | omega | (simp <;> omega) | simp)) | (refine Below.alloc ?_ (by first | omega | (simp <;> omega) | simp) _) | (apply below_drewN) | (apply below_drew) | (refine Below.setCell ?_ (by first | omega | (simp <;> omega) | simp) _)))⟩
set_option maxHeartbeats 2000000 in
theorem iPolyArea_no (h : Ints w p (fl L)) (hc : L.length ≤ c) (hl : L.length ≤ 4000000000000000000) (hv : okP L = false) :
    Calls Try.prog 21 #[.slice p L.length c] w fun e w' => e = .returned (.tuple #[.int .i64 0, .bool false]) ∧ Below w.heap.size w w' := by
  have H := Lib.hid h
  have c1 := fun w h => Lib.hid (iOf_no p c L w h hl hv)
  clear h hv
  go_enter Try.func21, Try.ntmps21
  go_wp2_with ((go_at_call 65; (with_reducible refine ((c1 _ ?_).out).mono ?_); (focus ((exact H.out.below (by repeat (first | assumption | exact Below.refl _ _ | (refine below_chain ?_ (by assumption) (by first | omega | (simp <;> omega) | simp)) | (refine Below.alloc ?_ (by first | omega | (simp <;> omega) | simp) _) | (apply below_drewN) | (apply below_drew) | (refine Below.setCell ?_ (by first | omega | (simp <;> omega) | simp) _)))); done)); rintro e wa ⟨rfl, hb_wa⟩; have hs_wa := hb_wa.size; (try simp at hs_wa)); obtain ⟨hc_wa, hf_wa⟩ := bcell hb_wa; (try have hz_wa : w.heap.size < wa.heap.size := by omega))
  exact bodyPost_ret (v := .tuple #[.int .i64 0, .bool false]) (by simp [results, Try.results21, go_sem, *]) rfl ⟨rfl, (by repeat (first | assumption | exact Below.refl _ _ | (refine below_chain ?_ (by assumption) (by first | omega | (simp <;> omega) | simp)) | (refine Below.alloc ?_ (by first | omega | (simp <;> omega) | simp) _) | (apply below_drewN) | (apply below_drew) | (refine Below.setCell ?_ (by first | omega | (simp <;> omega) | simp) _)))⟩
set_option maxHeartbeats 2000000 in
theorem iPolyArea_yes (h : Ints w p (fl L)) (hc : L.length ≤ c) (hv : okP L = true) :
    Calls Try.prog 21 #[.slice p L.length c] w fun e w' => e = .returned (.tuple #[.int .i64 (areaL L), .bool true]) ∧ Below w.heap.size w w' := by
  have H := Lib.hid h
  have hok : okP L = true := hv
  have c1 := fun w h => Lib.hid (iOf_yes p c L w h hc hv)
  have c2 := fun (A : Nat → Nat) (n₀ : Nat) w h hn => Lib.hid (iArea (n₀ := n₀) (A := A) (L := L) (w := w) h hn hok)
  clear h hv hok
  go_enter Try.func21, Try.ntmps21
  go_wp2_with (first | ((go_at_call 65; (with_reducible refine ((c1 _ ?_).out).mono ?_); (focus ((exact H.out.below (by repeat (first | assumption | exact Below.refl _ _ | (refine below_chain ?_ (by assumption) (by first | omega | (simp <;> omega) | simp)) | (refine Below.alloc ?_ (by first | omega | (simp <;> omega) | simp) _) | (apply below_drewN) | (apply below_drew) | (refine Below.setCell ?_ (by first | omega | (simp <;> omega) | simp) _)))); done)); rintro e wa ⟨A, ⟨rfl, hR⟩, hb_wa⟩; have hs_wa := hb_wa.size; (try simp at hs_wa)); obtain ⟨hc_wa, hf_wa⟩ := bcell hb_wa; (try have hz_wa : w.heap.size < wa.heap.size := by omega)) | ((go_at_call 68; (with_reducible refine ((c2 A wa.heap.size _ ?_ ?_).out).mono ?_); (focus ((exact hR.below ((Below.refl _ _).alloc (Nat.le_refl _) _)); done)); (focus (((simp <;> omega)); done)); rintro e wb ⟨rfl, hb_wb⟩; have hs_wb := hb_wb.size; (try simp at hs_wb)); obtain ⟨hc_wb, hf_wb⟩ := bcell hb_wb; (try have hz_wb : w.heap.size < wb.heap.size := by omega)))
  exact bodyPost_ret (v := .tuple #[.int .i64 (areaL L), .bool true]) (by simp [results, Try.results21, go_sem, *]) rfl ⟨rfl, (by repeat (first | assumption | exact Below.refl _ _ | (refine below_chain ?_ (by assumption) (by first | omega | (simp <;> omega) | simp)) | (refine Below.alloc ?_ (by first | omega | (simp <;> omega) | simp) _) | (apply below_drewN) | (apply below_drew) | (refine Below.setCell ?_ (by first | omega | (simp <;> omega) | simp) _)))⟩
set_option maxHeartbeats 2000000 in
theorem iPolyEdge_no (h : Ints w p (fl L)) (hc : L.length ≤ c) (hl : L.length ≤ 4000000000000000000) (hv : polyV L = false) :
    Calls Try.prog 27 #[.slice p L.length c] w fun e w' => e = .returned (.int .i64 (-1)) ∧ Below w.heap.size w w' := by
  have H := Lib.hid h
  have c1 := fun w h => Lib.hid (iSimpleOf_no (p := p) (c := c) (L := L) (w := w) h hc hl hv)
  clear h hv
  go_enter Try.func27, Try.ntmps27
  go_wp2_with ((go_at_call 61; (with_reducible refine ((c1 _ ?_).out).mono ?_); (focus ((exact H.out.below (by repeat (first | assumption | exact Below.refl _ _ | (refine below_chain ?_ (by assumption) (by first | omega | (simp <;> omega) | simp)) | (refine Below.alloc ?_ (by first | omega | (simp <;> omega) | simp) _) | (apply below_drewN) | (apply below_drew) | (refine Below.setCell ?_ (by first | omega | (simp <;> omega) | simp) _)))); done)); rintro e wa ⟨rfl, hb_wa⟩; have hs_wa := hb_wa.size; (try simp at hs_wa)); obtain ⟨hc_wa, hf_wa⟩ := bcell hb_wa; (try have hz_wa : w.heap.size < wa.heap.size := by omega))
  exact bodyPost_ret (v := .int .i64 (-1)) (by simp [results, Try.results27, go_sem, *]) rfl ⟨rfl, (by repeat (first | assumption | exact Below.refl _ _ | (refine below_chain ?_ (by assumption) (by first | omega | (simp <;> omega) | simp)) | (refine Below.alloc ?_ (by first | omega | (simp <;> omega) | simp) _) | (apply below_drewN) | (apply below_drew) | (refine Below.setCell ?_ (by first | omega | (simp <;> omega) | simp) _)))⟩
set_option maxHeartbeats 2000000 in
theorem iPolyEdge_yes (h : Ints w p (fl L)) (hc : L.length ≤ c) (hv : polyV L = true) :
    Calls Try.prog 27 #[.slice p L.length c] w fun e w' => e = .returned (.int .i64 (edgeL L)) ∧ Below w.heap.size w w' := by
  have H := Lib.hid h
  have hok : okP L = true := polyV_ok hv
  have c1 := fun w h => Lib.hid (iSimpleOf_yes (p := p) (c := c) (L := L) (w := w) h hc hv)
  have c2 := fun (A : Nat → Nat) (n₀ : Nat) w h hn => Lib.hid (iEdge (n₀ := n₀) (A := A) (L := L) (w := w) h hn hok)
  clear h hv hok
  go_enter Try.func27, Try.ntmps27
  go_wp2_with (first | ((go_at_call 61; (with_reducible refine ((c1 _ ?_).out).mono ?_); (focus ((exact H.out.below (by repeat (first | assumption | exact Below.refl _ _ | (refine below_chain ?_ (by assumption) (by first | omega | (simp <;> omega) | simp)) | (refine Below.alloc ?_ (by first | omega | (simp <;> omega) | simp) _) | (apply below_drewN) | (apply below_drew) | (refine Below.setCell ?_ (by first | omega | (simp <;> omega) | simp) _)))); done)); rintro e wa ⟨A, ⟨rfl, hR⟩, hb_wa⟩; have hs_wa := hb_wa.size; (try simp at hs_wa)); obtain ⟨hc_wa, hf_wa⟩ := bcell hb_wa; (try have hz_wa : w.heap.size < wa.heap.size := by omega)) | ((go_at_call 73; (with_reducible refine ((c2 A wa.heap.size _ ?_ ?_).out).mono ?_); (focus ((exact hR.below ((Below.refl _ _).alloc (Nat.le_refl _) _)); done)); (focus (((simp <;> omega)); done)); rintro e wb ⟨rfl, hb_wb⟩; have hs_wb := hb_wb.size; (try simp at hs_wb)); obtain ⟨hc_wb, hf_wb⟩ := bcell hb_wb; (try have hz_wb : w.heap.size < wb.heap.size := by omega)))
  exact bodyPost_ret (v := .int .i64 (edgeL L)) (by simp [results, Try.results27, go_sem, *]) rfl ⟨rfl, (by repeat (first | assumption | exact Below.refl _ _ | (refine below_chain ?_ (by assumption) (by first | omega | (simp <;> omega) | simp)) | (refine Below.alloc ?_ (by first | omega | (simp <;> omega) | simp) _) | (apply below_drewN) | (apply below_drew) | (refine Below.setCell ?_ (by first | omega | (simp <;> omega) | simp) _)))⟩
set_option maxHeartbeats 2000000 in
theorem iInsideM {n₀ : Nat} {A : Nat → Nat} (hR : RingB n₀ A L w) (hn : n₀ ≤ w.heap.size) (hok : okP L = true) :
    Calls Try.prog 69 #[.agg #[.pointer (some ⟨A 0, 0, none⟩)]] w fun e w' => e = .returned (.int .i64 (insideL L)) ∧ Below w.heap.size w w' := by
  have c1 := fun w h hn => Lib.hid (iArea (n₀ := n₀) (A := A) (L := L) (w := w) h hn hok)
  have c2 := fun w h hn => Lib.hid (iEdge (n₀ := n₀) (A := A) (L := L) (w := w) h hn hok)
  have HR := Lib.hid hR
  have ha := area_bd hok
  have he := edge_bd hok
  have hi : insideL L = (max (areaL L) (-(areaL L)) - edgeL L + 2).tdiv 2 := by unfold insideL; rw [show ((areaL L).natAbs : Int) = max (areaL L) (-(areaL L)) by omega]
  rw [hi]
  obtain ⟨a, hae⟩ : ∃ a, areaL L = a := ⟨_, rfl⟩
  obtain ⟨b, hbe⟩ : ∃ b, edgeL L = b := ⟨_, rfl⟩
  rw [hae] at c1 ha ⊢
  rw [hbe] at c2 he ⊢
  clear hR hok hi hae hbe
  go_enter Try.func69, Try.ntmps69
  go_wp2_with (first | ((go_at_call 68; (with_reducible refine ((c1 _ ?_ ?_).out).mono ?_); (focus ((exact HR.out.below ((show Below w.heap.size w _ from (by repeat (first | assumption | exact Below.refl _ _ | (refine below_chain ?_ (by assumption) (by first | omega | (simp <;> omega) | simp)) | (refine Below.alloc ?_ (by first | omega | (simp <;> omega) | simp) _) | (apply below_drewN) | (apply below_drew) | (refine Below.setCell ?_ (by first | omega | (simp <;> omega) | simp) _)))).mono hn)); done)); (focus (((simp <;> omega)); done)); rintro e wa ⟨rfl, hb_wa⟩; have hs_wa := hb_wa.size; (try simp at hs_wa)); obtain ⟨hc_wa, hf_wa⟩ := bcell hb_wa; (try have hz_wa : w.heap.size < wa.heap.size := by omega)) | ((go_at_call 73; (with_reducible refine ((c2 _ ?_ ?_).out).mono ?_); (focus ((exact HR.out.below ((show Below w.heap.size w _ from (by repeat (first | assumption | exact Below.refl _ _ | (refine below_chain ?_ (by assumption) (by first | omega | (simp <;> omega) | simp)) | (refine Below.alloc ?_ (by first | omega | (simp <;> omega) | simp) _) | (apply below_drewN) | (apply below_drew) | (refine Below.setCell ?_ (by first | omega | (simp <;> omega) | simp) _)))).mono hn)); done)); (focus (((first | omega | (simp <;> omega))); done)); rintro e wb ⟨rfl, hb_wb⟩; have hs_wb := hb_wb.size; (try simp at hs_wb)); obtain ⟨hc_wb, hf_wb⟩ := bcell hb_wb; (try have hz_wb : w.heap.size < wb.heap.size := by omega)))
  all_goals go_ret
  all_goals exact ⟨ret_int (by first | (rw [show max a (-a) = a by omega]) | (rw [show max a (-a) = -a by omega])), (by repeat (first | assumption | exact Below.refl _ _ | (refine below_chain ?_ (by assumption) (by first | omega | (simp <;> omega) | simp)) | (refine Below.alloc ?_ (by first | omega | (simp <;> omega) | simp) _) | (apply below_drewN) | (apply below_drew) | (refine Below.setCell ?_ (by first | omega | (simp <;> omega) | simp) _)))⟩
set_option maxHeartbeats 2000000 in
theorem iPolyInside_no (h : Ints w p (fl L)) (hc : L.length ≤ c) (hl : L.length ≤ 4000000000000000000) (hv : polyV L = false) :
    Calls Try.prog 25 #[.slice p L.length c] w fun e w' => e = .returned (.int .i64 (-1)) ∧ Below w.heap.size w w' := by
  have H := Lib.hid h
  have c1 := fun w h => Lib.hid (iSimpleOf_no (p := p) (c := c) (L := L) (w := w) h hc hl hv)
  clear h hv
  go_enter Try.func25, Try.ntmps25
  go_wp2_with ((go_at_call 61; (with_reducible refine ((c1 _ ?_).out).mono ?_); (focus ((exact H.out.below (by repeat (first | assumption | exact Below.refl _ _ | (refine below_chain ?_ (by assumption) (by first | omega | (simp <;> omega) | simp)) | (refine Below.alloc ?_ (by first | omega | (simp <;> omega) | simp) _) | (apply below_drewN) | (apply below_drew) | (refine Below.setCell ?_ (by first | omega | (simp <;> omega) | simp) _)))); done)); rintro e wa ⟨rfl, hb_wa⟩; have hs_wa := hb_wa.size; (try simp at hs_wa)); obtain ⟨hc_wa, hf_wa⟩ := bcell hb_wa; (try have hz_wa : w.heap.size < wa.heap.size := by omega))
  exact bodyPost_ret (v := .int .i64 (-1)) (by simp [results, Try.results25, go_sem, *]) rfl ⟨rfl, (by repeat (first | assumption | exact Below.refl _ _ | (refine below_chain ?_ (by assumption) (by first | omega | (simp <;> omega) | simp)) | (refine Below.alloc ?_ (by first | omega | (simp <;> omega) | simp) _) | (apply below_drewN) | (apply below_drew) | (refine Below.setCell ?_ (by first | omega | (simp <;> omega) | simp) _)))⟩
set_option maxHeartbeats 2000000 in
theorem iPolyInside_yes (h : Ints w p (fl L)) (hc : L.length ≤ c) (hv : polyV L = true) :
    Calls Try.prog 25 #[.slice p L.length c] w fun e w' => e = .returned (.int .i64 (insideL L)) ∧ Below w.heap.size w w' := by
  have H := Lib.hid h
  have hok : okP L = true := polyV_ok hv
  have c1 := fun w h => Lib.hid (iSimpleOf_yes (p := p) (c := c) (L := L) (w := w) h hc hv)
  have c2 := fun (A : Nat → Nat) (n₀ : Nat) w h hn => Lib.hid (iInsideM (n₀ := n₀) (A := A) (L := L) (w := w) h hn hok)
  clear h hv hok
  go_enter Try.func25, Try.ntmps25
  go_wp2_with (first | ((go_at_call 61; (with_reducible refine ((c1 _ ?_).out).mono ?_); (focus ((exact H.out.below (by repeat (first | assumption | exact Below.refl _ _ | (refine below_chain ?_ (by assumption) (by first | omega | (simp <;> omega) | simp)) | (refine Below.alloc ?_ (by first | omega | (simp <;> omega) | simp) _) | (apply below_drewN) | (apply below_drew) | (refine Below.setCell ?_ (by first | omega | (simp <;> omega) | simp) _)))); done)); rintro e wa ⟨A, ⟨rfl, hR⟩, hb_wa⟩; have hs_wa := hb_wa.size; (try simp at hs_wa)); obtain ⟨hc_wa, hf_wa⟩ := bcell hb_wa; (try have hz_wa : w.heap.size < wa.heap.size := by omega)) | ((go_at_call 69; (with_reducible refine ((c2 A wa.heap.size _ ?_ ?_).out).mono ?_); (focus ((exact hR.below ((Below.refl _ _).alloc (Nat.le_refl _) _)); done)); (focus (((simp <;> omega)); done)); rintro e wb ⟨rfl, hb_wb⟩; have hs_wb := hb_wb.size; (try simp at hs_wb)); obtain ⟨hc_wb, hf_wb⟩ := bcell hb_wb; (try have hz_wb : w.heap.size < wb.heap.size := by omega)))
  exact bodyPost_ret (v := .int .i64 (insideL L)) (by simp [results, Try.results25, go_sem, *]) rfl ⟨rfl, (by repeat (first | assumption | exact Below.refl _ _ | (refine below_chain ?_ (by assumption) (by first | omega | (simp <;> omega) | simp)) | (refine Below.alloc ?_ (by first | omega | (simp <;> omega) | simp) _) | (apply below_drewN) | (apply below_drew) | (refine Below.setCell ?_ (by first | omega | (simp <;> omega) | simp) _)))⟩
set_option maxHeartbeats 2000000 in
theorem iPolyConvex_no (h : Ints w p (fl L)) (hc : L.length ≤ c) (hl : L.length ≤ 4000000000000000000) (hv : polyV L = false) :
    Calls Try.prog 30 #[.slice p L.length c] w fun e w' => e = .returned (.bool false) ∧ Below w.heap.size w w' := by
  have H := Lib.hid h
  have c1 := fun w h => Lib.hid (iSimpleOf_no (p := p) (c := c) (L := L) (w := w) h hc hl hv)
  clear h hv
  go_enter Try.func30, Try.ntmps30
  go_wp2_with ((go_at_call 61; (with_reducible refine ((c1 _ ?_).out).mono ?_); (focus ((exact H.out.below (by repeat (first | assumption | exact Below.refl _ _ | (refine below_chain ?_ (by assumption) (by first | omega | (simp <;> omega) | simp)) | (refine Below.alloc ?_ (by first | omega | (simp <;> omega) | simp) _) | (apply below_drewN) | (apply below_drew) | (refine Below.setCell ?_ (by first | omega | (simp <;> omega) | simp) _)))); done)); rintro e wa ⟨rfl, hb_wa⟩; have hs_wa := hb_wa.size; (try simp at hs_wa)); obtain ⟨hc_wa, hf_wa⟩ := bcell hb_wa; (try have hz_wa : w.heap.size < wa.heap.size := by omega))
  exact bodyPost_ret (v := .bool false) (by simp [results, Try.results30, go_sem, *]) rfl ⟨rfl, (by repeat (first | assumption | exact Below.refl _ _ | (refine below_chain ?_ (by assumption) (by first | omega | (simp <;> omega) | simp)) | (refine Below.alloc ?_ (by first | omega | (simp <;> omega) | simp) _) | (apply below_drewN) | (apply below_drew) | (refine Below.setCell ?_ (by first | omega | (simp <;> omega) | simp) _)))⟩
set_option maxHeartbeats 2000000 in
theorem iPolyConvex_yes (h : Ints w p (fl L)) (hc : L.length ≤ c) (hv : polyV L = true) :
    Calls Try.prog 30 #[.slice p L.length c] w fun e w' => e = .returned (.bool (!(anyF (turnBad L) L.length))) ∧ Below w.heap.size w w' := by
  have H := Lib.hid h
  have hok : okP L = true := polyV_ok hv
  have c1 := fun w h => Lib.hid (iSimpleOf_yes (p := p) (c := c) (L := L) (w := w) h hc hv)
  have c2 := fun (A : Nat → Nat) (n₀ : Nat) w h hn => Lib.hid (iConvexM (n₀ := n₀) (A := A) (L := L) (w := w) h hn hok)
  clear h hv hok
  go_enter Try.func30, Try.ntmps30
  go_wp2_with (first | ((go_at_call 61; (with_reducible refine ((c1 _ ?_).out).mono ?_); (focus ((exact H.out.below (by repeat (first | assumption | exact Below.refl _ _ | (refine below_chain ?_ (by assumption) (by first | omega | (simp <;> omega) | simp)) | (refine Below.alloc ?_ (by first | omega | (simp <;> omega) | simp) _) | (apply below_drewN) | (apply below_drew) | (refine Below.setCell ?_ (by first | omega | (simp <;> omega) | simp) _)))); done)); rintro e wa ⟨A, ⟨rfl, hR⟩, hb_wa⟩; have hs_wa := hb_wa.size; (try simp at hs_wa)); obtain ⟨hc_wa, hf_wa⟩ := bcell hb_wa; (try have hz_wa : w.heap.size < wa.heap.size := by omega)) | ((go_at_call 77; (with_reducible refine ((c2 A wa.heap.size _ ?_ ?_).out).mono ?_); (focus ((exact hR.below ((Below.refl _ _).alloc (Nat.le_refl _) _)); done)); (focus (((simp <;> omega)); done)); rintro e wb ⟨rfl, hb_wb⟩; have hs_wb := hb_wb.size; (try simp at hs_wb)); obtain ⟨hc_wb, hf_wb⟩ := bcell hb_wb; (try have hz_wb : w.heap.size < wb.heap.size := by omega)))
  exact bodyPost_ret (v := .bool (!(anyF (turnBad L) L.length))) (by simp [results, Try.results30, go_sem, *]) rfl ⟨rfl, (by repeat (first | assumption | exact Below.refl _ _ | (refine below_chain ?_ (by assumption) (by first | omega | (simp <;> omega) | simp)) | (refine Below.alloc ?_ (by first | omega | (simp <;> omega) | simp) _) | (apply below_drewN) | (apply below_drew) | (refine Below.setCell ?_ (by first | omega | (simp <;> omega) | simp) _)))⟩
set_option maxHeartbeats 2000000 in
theorem iPolyPlace_no (h : Ints w p (fl L)) (hc : L.length ≤ c) (hl : L.length ≤ 4000000000000000000) (q : P2) (hv : polyV L = false) :
    Calls Try.prog 28 #[.slice p L.length c, .agg #[.int .i64 q.1, .int .i64 q.2]] w fun e w' => e = .returned (.tuple #[.int .i64 0, .bool false]) ∧ Below w.heap.size w w' := by
  have H := Lib.hid h
  have c1 := fun w h => Lib.hid (iSimpleOf_no (p := p) (c := c) (L := L) (w := w) h hc hl hv)
  clear h hv
  go_enter Try.func28, Try.ntmps28
  go_wp2_with ((go_at_call 61; (with_reducible refine ((c1 _ ?_).out).mono ?_); (focus ((exact H.out.below (by repeat (first | assumption | exact Below.refl _ _ | (refine below_chain ?_ (by assumption) (by first | omega | (simp <;> omega) | simp)) | (refine Below.alloc ?_ (by first | omega | (simp <;> omega) | simp) _) | (apply below_drewN) | (apply below_drew) | (refine Below.setCell ?_ (by first | omega | (simp <;> omega) | simp) _)))); done)); rintro e wa ⟨rfl, hb_wa⟩; have hs_wa := hb_wa.size; (try simp at hs_wa)); obtain ⟨hc_wa, hf_wa⟩ := bcell hb_wa; (try have hz_wa : w.heap.size < wa.heap.size := by omega))
  exact bodyPost_ret (v := .tuple #[.int .i64 0, .bool false]) (by simp [results, Try.results28, go_sem, *]) rfl ⟨rfl, (by repeat (first | assumption | exact Below.refl _ _ | (refine below_chain ?_ (by assumption) (by first | omega | (simp <;> omega) | simp)) | (refine Below.alloc ?_ (by first | omega | (simp <;> omega) | simp) _) | (apply below_drewN) | (apply below_drew) | (refine Below.setCell ?_ (by first | omega | (simp <;> omega) | simp) _)))⟩
set_option maxHeartbeats 2000000 in
theorem iPolyPlace_off (h : Ints w p (fl L)) (hc : L.length ≤ c) (q : P2) (hv : polyV L = true) (hq : pvP q = false) :
    Calls Try.prog 28 #[.slice p L.length c, .agg #[.int .i64 q.1, .int .i64 q.2]] w fun e w' => e = .returned (.tuple #[.int .i64 0, .bool false]) ∧ Below w.heap.size w w' := by
  have H := Lib.hid h
  have c1 := fun w h => Lib.hid (iSimpleOf_yes (p := p) (c := c) (L := L) (w := w) h hc hv)
  have c2 := fun w => Lib.hid (ipv_is q.1 q.2 false w hq)
  clear h hv hq
  go_enter Try.func28, Try.ntmps28
  go_wp2_with (first | ((go_at_call 61; (with_reducible refine ((c1 _ ?_).out).mono ?_); (focus ((exact H.out.below (by repeat (first | assumption | exact Below.refl _ _ | (refine below_chain ?_ (by assumption) (by first | omega | (simp <;> omega) | simp)) | (refine Below.alloc ?_ (by first | omega | (simp <;> omega) | simp) _) | (apply below_drewN) | (apply below_drew) | (refine Below.setCell ?_ (by first | omega | (simp <;> omega) | simp) _)))); done)); rintro e wa ⟨A, ⟨rfl, hR⟩, hb_wa⟩; have hs_wa := hb_wa.size; (try simp at hs_wa)); obtain ⟨hc_wa, hf_wa⟩ := bcell hb_wa; (try have hz_wa : w.heap.size < wa.heap.size := by omega)) | ((go_at_call 74; (with_reducible refine ((c2 _).out).mono ?_); rintro e wb ⟨rfl, hb_wb⟩; have hs_wb := hb_wb.size; (try simp at hs_wb)); obtain ⟨hc_wb, hf_wb⟩ := bcell hb_wb; (try have hz_wb : w.heap.size < wb.heap.size := by omega)))
  exact bodyPost_ret (v := .tuple #[.int .i64 0, .bool false]) (by simp [results, Try.results28, go_sem, *]) rfl ⟨rfl, (by repeat (first | assumption | exact Below.refl _ _ | (refine below_chain ?_ (by assumption) (by first | omega | (simp <;> omega) | simp)) | (refine Below.alloc ?_ (by first | omega | (simp <;> omega) | simp) _) | (apply below_drewN) | (apply below_drew) | (refine Below.setCell ?_ (by first | omega | (simp <;> omega) | simp) _)))⟩
set_option maxHeartbeats 2000000 in
theorem iPolyPlace_yes (h : Ints w p (fl L)) (hc : L.length ≤ c) (q : P2) (hv : polyV L = true) (hq : pvP q = true) :
    Calls Try.prog 28 #[.slice p L.length c, .agg #[.int .i64 q.1, .int .i64 q.2]] w fun e w' => e = .returned (.tuple #[.int .i64 (placeL L q), .bool true]) ∧ Below w.heap.size w w' := by
  have H := Lib.hid h
  have hok := polyV_ok hv
  have c1 := fun w h => Lib.hid (iSimpleOf_yes (p := p) (c := c) (L := L) (w := w) h hc hv)
  have c2 := fun w => Lib.hid (ipv_is q.1 q.2 true w hq)
  have c3 := fun (A : Nat → Nat) (n₀ : Nat) w h hn => Lib.hid (iLocate (n₀ := n₀) (A := A) (L := L) (w := w) h hn hok hq)
  clear h hv hq hok
  go_enter Try.func28, Try.ntmps28
  go_wp2_with (first | ((go_at_call 61; (with_reducible refine ((c1 _ ?_).out).mono ?_); (focus ((exact H.out.below (by repeat (first | assumption | exact Below.refl _ _ | (refine below_chain ?_ (by assumption) (by first | omega | (simp <;> omega) | simp)) | (refine Below.alloc ?_ (by first | omega | (simp <;> omega) | simp) _) | (apply below_drewN) | (apply below_drew) | (refine Below.setCell ?_ (by first | omega | (simp <;> omega) | simp) _)))); done)); rintro e wa ⟨A, ⟨rfl, hR⟩, hb_wa⟩; have hs_wa := hb_wa.size; (try simp at hs_wa)); obtain ⟨hc_wa, hf_wa⟩ := bcell hb_wa; (try have hz_wa : w.heap.size < wa.heap.size := by omega)) | ((go_at_call 74; (with_reducible refine ((c2 _).out).mono ?_); rintro e wb ⟨rfl, hb_wb⟩; have hs_wb := hb_wb.size; (try simp at hs_wb)); obtain ⟨hc_wb, hf_wb⟩ := bcell hb_wb; (try have hz_wb : w.heap.size < wb.heap.size := by omega)) | ((go_at_call 75; (with_reducible refine ((c3 A wa.heap.size _ ?_ ?_).out).mono ?_); (focus ((exact hR.below ((show Below wa.heap.size wa _ from (by repeat (first | assumption | exact Below.refl _ _ | (refine below_chain ?_ (by assumption) (by first | omega | (simp <;> omega) | simp)) | (refine Below.alloc ?_ (by first | omega | (simp <;> omega) | simp) _) | (apply below_drewN) | (apply below_drew) | (refine Below.setCell ?_ (by first | omega | (simp <;> omega) | simp) _)))))); done)); (focus (((first | omega | (simp <;> omega))); done)); rintro e wd ⟨rfl, hb_wd⟩; have hs_wd := hb_wd.size; (try simp at hs_wd)); obtain ⟨hc_wd, hf_wd⟩ := bcell hb_wd; (try have hz_wd : w.heap.size < wd.heap.size := by omega)))
  exact bodyPost_ret (v := .tuple #[.int .i64 (placeL L q), .bool true]) (by simp [results, Try.results28, go_sem, *]) rfl ⟨rfl, (by repeat (first | assumption | exact Below.refl _ _ | (refine below_chain ?_ (by assumption) (by first | omega | (simp <;> omega) | simp)) | (refine Below.alloc ?_ (by first | omega | (simp <;> omega) | simp) _) | (apply below_drewN) | (apply below_drew) | (refine Below.setCell ?_ (by first | omega | (simp <;> omega) | simp) _)))⟩
end
end Go.Proofs.Ytgncjpakclbegaa
namespace Go.Proofs.Ytgncjpakclbegaa
open Go.RowKit Go.Shelf Poly
set_option linter.unusedVariables false
attribute [local go_sem] Oper.semAt_some

theorem two_cells (V : World) (x y : Int) (T : TypeId) : ∀ (j : Nat) (z : Int), [x, y][j]? = some z → (V.alloc (.cells #[.int .i64 x, .int .i64 y] T)).cell? ((⟨V.heap.size, 0, none⟩ : Addr).add j) = some (.int .i64 z) := by
  intro j z hj
  have hb : (V.alloc (.cells #[.int .i64 x, .int .i64 y] T)).heap[V.heap.size]? = some (.cells #[.int .i64 x, .int .i64 y] T (0, 0)) := Deep.blk_alloc_new _ _
  match j, hj with
  | 0, hj => simp at hj; subst hj; show World.cell? _ ⟨V.heap.size, 0, none⟩ = _; unfold World.cell?; rw [hb]; rfl
  | 1, hj => simp at hj; subst hj; show World.cell? _ ⟨V.heap.size, 1, none⟩ = _; unfold World.cell?; rw [hb]; rfl
  | j + 2, hj => simp at hj
theorem any_seq {P : Program} {ops : Array Oper} {Q' : Exit → Act → World → Prop} {l : List Oper} {k : Nat} {listed : Array Bool} {a : Act} {w : World} (hl : ops.toList.drop k = l) (hB : Region.seqB .any ops l.length k listed = true) (h : wpList P ops Q' l a w) : wpAny P .any ops Q' l.length listed a w :=
  wpAny_of_seq l k listed a w (fun j => by rw [← hl, List.getElem?_drop]; simp) hB h
/-- the list so far -/
def LstP (lo : Nat) (W : World) (v : Value) (xs : List P2) : Prop :=
  (xs = [] ∧ v = .slice none 0 0) ∨ ∃ g cap : Nat, v = .slice (some ⟨g, 0, none⟩) xs.length cap ∧ lo ≤ g ∧ Own W g 31 2 xs.length cap (fl xs)
theorem LstP.own {lo : Nat} {W W' : World} {v : Value} {xs : List P2} {row : Option Nat} (h : LstP lo W v xs) (hg : W.grownBy W' row) (hr : ∀ r, row = some r → ∃ o : Obj, W.heap[r]? = some o ∧ o.isCells = false) : LstP lo W' v xs := by
  rcases h with h | ⟨g, cap, h1, h2, h3⟩
  · exact .inl h
  · obtain ⟨cur, hb, hrest⟩ := h3.body
    exact .inr ⟨g, cap, h1, h2, h3.block (grownBy_keeps_cells hg hr hb rfl)⟩
theorem Hold.grow {w : World} {n₀ : Nat} {A : Nat → Nat} {L : List P2} {m g : Nat} {W W' : World} (h : Hold w n₀ A L m W) (hn : n₀ ≤ w.heap.size) (hm : w.heap.size ≤ m) (hg : W.grownBy W' (some g)) (hmg : m ≤ g) : Hold w n₀ A L m W' :=
  ⟨h.ring.below ((Below.refl n₀ W).grown hg (by have := h.size; omega) (fun k e => by cases e; omega)), h.below.grown hg (by have := h.size; omega) (fun k e => by cases e; omega), Nat.le_trans h.size hg.size⟩
theorem Kp2.grow {m Bn g : Nat} {W W' : World} (hg : W.grownBy W' (some g)) (hm : m ≤ W.heap.size) (hB : Bn < W.heap.size) (hmg : m ≤ g) (hne : Bn ≠ g) : Kp2 m Bn W W' :=
  ⟨(Below.refl m W).grown hg hm (fun k e => by cases e; exact hmg), hg.block Bn hB (by simpa using hne)⟩
set_option maxRecDepth 100000 in
set_option maxHeartbeats 4000000 in
theorem iPoints {n₀ : Nat} {A : Nat → Nat} {L : List P2} {w : World} (hR : RingB n₀ A L w) (hn : n₀ ≤ w.heap.size) (hok : okP L = true) :
    Calls Try.prog 67 #[.agg #[.pointer (some ⟨A 0, 0, none⟩)]] w fun e w' => ∃ g cap : Nat, e = .returned (.slice (some ⟨g, 0, none⟩) L.length cap) ∧ w.heap.size ≤ g ∧ Own w' g 31 2 L.length cap (fl L) ∧ Below w.heap.size w w' := by
  refine (callsIn_wide (n := 9)).1 ?_
  have HR := Lib.hid (And.intro hR hok)
  have hl := okP_len hok
  clear hR hok
  refine callsIn_of_wp_marks Try.func67 rfl trivial ?_ rfl
  simp only [Try.ntmps67, List.size_toArray, List.length_cons, List.length_nil, Nat.reduceAdd, Nat.reduceSub, Array.replicate_succ, Array.replicate_zero, List.push_toArray, List.append_toArray, List.nil_append, List.cons_append]
  gi_wp2
  refine ⟨by simp [Fence.wide], ?_⟩
  refine ((callsIn_wide.2 (iCorners _ _)).mono ?_)
  rintro e w' ⟨rfl, hw'⟩
  obtain ⟨w3, hw3⟩ : ∃ W, W = w' := ⟨_, rfl⟩
  rw [← hw3] at hw' ⊢
  have hsz : w3.heap.size = w.heap.size + 3 := by rw [hw']; simp
  have hb3 : Below w.heap.size w w3 := by
    rw [hw']
    exact (((Below.refl _ w).alloc (Nat.le_refl _) _).alloc (by simp) _).alloc (by simp; omega) _
  have y1 : w3.cell? ⟨w.heap.size + 1, 0, none⟩ = some (.slice none 0 0) := by rw [hw']; simp [go_sem]
  have y2 : w3.cell? ⟨w.heap.size + 1 + 1, 0, none⟩ = some (.pointer (some ⟨A 0, 0, none⟩)) := by rw [hw']; simp [go_sem]
  have f1 : w3.frozen? ⟨w.heap.size + 1, 0, none⟩ = false := by rw [hw']; simp [go_sem]
  clear hw' hw3
  have hgive := corners_stops 8 (by decide) (w.heap.size + 1 + 1) n₀ A L (by omega) w3 (by omega) (by omega) y2 (HR.out.1.below (hb3.mono hn))
  gi_wp2
  refine wpIn_rangeFunc_ownF (F := Fence.wide) rfl (by decide) (gf := 127) (lb := #[.pointer (some ⟨w.heap.size + 1 + 1, 0, none⟩)]) rfl trivial (enters_of Try.func127 (by kernel_rfl) rfl) hgive
    (fun h k => h.t k) (Kp2.b (by omega) (by omega)) (Below.refl _ _) (fun _ => rfl)
    (fun pre W => (∃ v, W.cell? ⟨w.heap.size + 1, 0, none⟩ = some v ∧ LstP w3.heap.size W v (pre.map (cy L))) ∧ W.frozen? ⟨w.heap.size + 1, 0, none⟩ = false ∧ Hold w n₀ A L w3.heap.size W)
    (fun _ _ _ => False)
    (fun s W W' row hs hg hr => by
      obtain ⟨⟨v, hv1, hv2⟩, hs2, hs3⟩ := hs
      exact ⟨⟨v, cell_kept hv1 hg (fun r e => (hr r e).2), hv2.own hg (fun r e => (hr r e).2)⟩, (frozen_kept hv1 hg (fun r e => (hr r e).2)).trans hs2, hs3.own (by omega) hg hr⟩)
    (fun _ _ _ _ _ hs _ _ => hs)
    ⟨⟨_, y1, .inl ⟨rfl, rfl⟩⟩, f1, HR.out.1.below (hb3.mono hn), hb3, Nat.le_refl _⟩
    (fun x => { tmps := #[.agg #[.pointer (some ⟨A 0, 0, none⟩)], .pointer (some ⟨w.heap.size, 0, none⟩), .slice none 0 0, .pointer (some ⟨w.heap.size + 1, 0, none⟩), .pointer (some ⟨A x, 0, none⟩), .agg #[.pointer (some ⟨A 0, 0, none⟩)], .func (.func 127) #[] #[.pointer (some ⟨w.heap.size + 1 + 1, 0, none⟩)], .pointer (some ⟨A x, 0, none⟩), undef, undef, undef, undef, undef, undef, undef, undef], defers := [] }) ?assign ?body ?done ?stop
  case assign =>
    intro l x W K hK
    gi_wp2
    exact hK
  case body =>
    rintro l pre x W ⟨⟨v, hc, hL⟩, hf, hH⟩ hlen
    gi_wp2
    obtain ⟨x0, x1, x2⟩ := hH.ring.ring.cells x
    have hW3 := hH.size
    have l1 : A x < W.heap.size := by have := hH.ring.ring.lt x; omega
    have l3 : w.heap.size + 1 < W.heap.size := by omega
    have HH := Lib.hid hH
    clear hH
    have hmap : (pre ++ [x]).map (cy L) = pre.map (cy L) ++ [cy L x] := by simp
    rcases hL with ⟨hnil, rfl⟩ | ⟨g, cap, rfl, hgl, hown⟩
    · skip
      have hmx : Try.prog.follows .mixedOrders = true := by kernel_rfl
      refine wpIn_region_any hmx (any_in (by kernel_rfl) (fun ⟨_, _, h⟩ => h) _ _ _ _ ?_)
      refine wpAny_take (i := 1) (v := .pointer (some ⟨A x, 0, none⟩)) rfl (by kernel_rfl) (by kernel_rfl) (by kernel_rfl) (fun _ _ _ h => h) (Or.inl ⟨by rfl, fun w => ?_⟩) ?_
      · go_simp
      refine wpAny_take (i := 2) (v := .pointer (some ⟨A x, 0, none⟩)) rfl (by kernel_rfl) (by kernel_rfl) (by kernel_rfl) (fun _ _ _ h => h) (Or.inl ⟨by rfl, fun w => ?_⟩) ?_
      · go_simp
      refine wpAny_take (i := 3) (v := .pointer (some ⟨A x, 0, none⟩)) rfl (by kernel_rfl) (by kernel_rfl) (by kernel_rfl) (fun _ _ _ h => h) (Or.inl ⟨by rfl, fun w => ?_⟩) ?_
      · go_simp
      (refine wpAny_ready (rs := [0, 4]) (by kernel_rfl) (by simp) ?_)
      refine AllReady.cons rfl (fun K hK => ?pa) (AllReady.cons rfl (fun K hK => ?pb) AllReady.nil)
      case' pa => (go_simp; (refine hK _ _ ?_); clear hK K; (refine wpAny_ready (rs := [4]) (by kernel_rfl) (by simp) ?_); (refine AllReady.cons rfl (fun K hK => ?_) AllReady.nil); go_simp; (refine hK _ _ ?_); clear hK K; (refine wpAny_ready (rs := [5]) (by kernel_rfl) (by simp) ?_); (refine AllReady.cons rfl (fun K hK => ?_) AllReady.nil); go_simp; (refine hK _ _ ?_); clear hK K)
      case' pb => (go_simp; (refine hK _ _ ?_); clear hK K; (refine wpAny_ready (rs := [0, 5]) (by kernel_rfl) (by simp) ?_); refine AllReady.cons rfl (fun K hK => ?pc) (AllReady.cons rfl (fun K hK => ?pd) AllReady.nil))
      case' pc => (go_simp; (refine hK _ _ ?_); clear hK K; (refine wpAny_ready (rs := [5]) (by kernel_rfl) (by simp) ?_); (refine AllReady.cons rfl (fun K hK => ?_) AllReady.nil); go_simp; (refine hK _ _ ?_); clear hK K)
      case' pd => (go_simp; (refine hK _ _ ?_); clear hK K; (refine wpAny_ready (rs := [0]) (by kernel_rfl) (by simp) ?_); (refine AllReady.cons rfl (fun K hK => ?_) AllReady.nil); go_simp; (refine hK _ _ ?_); clear hK K)
      all_goals
        refine any_seq (k := 6) rfl (by kernel_rfl) ?_
        have hb_wg : Below W.heap.size W W.drew := ⟨rfl, rfl, rfl, Nat.le_refl _, fun _ _ => rfl⟩
        have hsw : (W.alloc (.cells #[.int .i64 (cy L x).1, .int .i64 (cy L x).2] 31)).drew = W.drew.alloc (.cells #[.int .i64 (cy L x).1, .int .i64 (cy L x).2] 31) := rfl
        rw [hsw]
        clear hsw hmx
        have q1 : W.drew.cell? ⟨w.heap.size + 1, 0, none⟩ = some (.slice none 0 0) := hc
        have q2 : W.drew.frozen? ⟨w.heap.size + 1, 0, none⟩ = false := hf
        have hHg := Lib.hid (And.intro (HH.out.next (W' := W.drew) hn (by omega) (hb_wg.mono hW3)) hb_wg)
        have HM := Lib.hid hmap
        have HN := Lib.hid hnil
        clear hc hf hmap hnil hb_wg
        go_wp2_with (at_builtin; refine wp_append_nil _ rfl _ _ 23 rfl 31 _ 2 16 Try.underlying23 info_point rfl (by decide) (by decide) rfl _ 1 1 [(cy L x).1, (cy L x).2] rfl (by decide) rfl (two_cells W.drew _ _ _) (by omega) ?_; intro cap' w' hown hbe hlt; (have hbA : Below W.heap.size W.drew w' := ((Below.refl W.heap.size W.drew).alloc (Nat.le_refl _) (.cells #[.int .i64 (cy L x).1, .int .i64 (cy L x).2] 31)).trans (hbe.mono (by simp))); have q1' := (hbA.cell (p := ⟨w.heap.size + 1, 0, none⟩) l3).trans q1; have q2' := (hbA.frozen (p := ⟨w.heap.size + 1, 0, none⟩) l3).trans q2; (have hown' : Own w' (W.heap.size + 1) 31 2 1 cap' [(cy L x).1, (cy L x).2] := by simpa using hown); have HA := Lib.hid (And.intro hown' hbA); (have hsA : W.heap.size ≤ w'.heap.size := hbA.size); clear hown hown' hbe hlt hbA q1 q2)
        have hHw := hHg.out.1.next (W' := w') hn (by omega) (HA.out.2.mono (by omega))
        have hWw : Below W.heap.size W w' := hHg.out.2.trans HA.out.2
        refine ⟨(keeps_below hWw).trans (KeepsOthers.setCell _ _ _), Kp2.put hWw (by omega) (by omega) (by omega) (by omega) _, ⟨_, World.cell?_setCell_same' _ _ _ (by rw [q1']; rfl), .inr ⟨W.heap.size + 1, cap', ?_, by omega, ?_⟩⟩, by rw [World.frozen?_setCell]; exact q2', hHw.put hn (by omega) _⟩
        · rw [HM.out, HN.out]; simp
        · rw [HM.out, HN.out]
          exact (HA.out.1.setOther (by simp; omega) _)
    · have hgW := hown.lt
      have hne : w.heap.size + 1 ≠ g := by omega
      obtain ⟨m, hm⟩ : ∃ m, pre.length = m := ⟨_, rfl⟩
      rw [List.length_map, hm] at hc hown
      have hm12 : m < 12 := by omega
      have HW := Lib.hid hown
      have hmx : Try.prog.follows .mixedOrders = true := by kernel_rfl
      refine wpIn_region_any hmx (any_in (by kernel_rfl) (fun ⟨_, _, h⟩ => h) _ _ _ _ ?_)
      refine wpAny_take (i := 1) (v := .pointer (some ⟨A x, 0, none⟩)) rfl (by kernel_rfl) (by kernel_rfl) (by kernel_rfl) (fun _ _ _ h => h) (Or.inl ⟨by rfl, fun w => ?_⟩) ?_
      · go_simp
      refine wpAny_take (i := 2) (v := .pointer (some ⟨A x, 0, none⟩)) rfl (by kernel_rfl) (by kernel_rfl) (by kernel_rfl) (fun _ _ _ h => h) (Or.inl ⟨by rfl, fun w => ?_⟩) ?_
      · go_simp
      refine wpAny_take (i := 3) (v := .pointer (some ⟨A x, 0, none⟩)) rfl (by kernel_rfl) (by kernel_rfl) (by kernel_rfl) (fun _ _ _ h => h) (Or.inl ⟨by rfl, fun w => ?_⟩) ?_
      · go_simp
      (refine wpAny_ready (rs := [0, 4]) (by kernel_rfl) (by simp) ?_)
      refine AllReady.cons rfl (fun K hK => ?pa2) (AllReady.cons rfl (fun K hK => ?pb2) AllReady.nil)
      case' pa2 => (go_simp; (refine hK _ _ ?_); clear hK K; (refine wpAny_ready (rs := [4]) (by kernel_rfl) (by simp) ?_); (refine AllReady.cons rfl (fun K hK => ?_) AllReady.nil); go_simp; (refine hK _ _ ?_); clear hK K; (refine wpAny_ready (rs := [5]) (by kernel_rfl) (by simp) ?_); (refine AllReady.cons rfl (fun K hK => ?_) AllReady.nil); go_simp; (refine hK _ _ ?_); clear hK K)
      case' pb2 => (go_simp; (refine hK _ _ ?_); clear hK K; (refine wpAny_ready (rs := [0, 5]) (by kernel_rfl) (by simp) ?_); refine AllReady.cons rfl (fun K hK => ?pc2) (AllReady.cons rfl (fun K hK => ?pd2) AllReady.nil))
      case' pc2 => (go_simp; (refine hK _ _ ?_); clear hK K; (refine wpAny_ready (rs := [5]) (by kernel_rfl) (by simp) ?_); (refine AllReady.cons rfl (fun K hK => ?_) AllReady.nil); go_simp; (refine hK _ _ ?_); clear hK K)
      case' pd2 => (go_simp; (refine hK _ _ ?_); clear hK K; (refine wpAny_ready (rs := [0]) (by kernel_rfl) (by simp) ?_); (refine AllReady.cons rfl (fun K hK => ?_) AllReady.nil); go_simp; (refine hK _ _ ?_); clear hK K)
      all_goals
        refine any_seq (k := 6) rfl (by kernel_rfl) ?_
        have hb_wg : Below W.heap.size W W.drew := ⟨rfl, rfl, rfl, Nat.le_refl _, fun _ _ => rfl⟩
        have hsw : (W.alloc (.cells #[.int .i64 (cy L x).1, .int .i64 (cy L x).2] 31)).drew = W.drew.alloc (.cells #[.int .i64 (cy L x).1, .int .i64 (cy L x).2] 31) := rfl
        rw [hsw]
        clear hsw hmx
        have q1 : W.drew.cell? ⟨w.heap.size + 1, 0, none⟩ = some (.slice (some ⟨g, 0, none⟩) m cap) := hc
        have q2 : W.drew.frozen? ⟨w.heap.size + 1, 0, none⟩ = false := hf
        have hO : Own (W.drew.alloc (.cells #[.int .i64 (cy L x).1, .int .i64 (cy L x).2] 31)) g 31 2 m cap (fl (pre.map (cy L))) := (hown.below hb_wg).alloc _
        have HO := Lib.hid hO
        have HM := Lib.hid (And.intro hmap hm)
        clear hc hf hmap hown hm hb_wg hO
        go_wp2_with (at_builtin; refine wp_append _ rfl _ _ 23 rfl 31 _ 2 16 Try.underlying23 info_point rfl (by decide) (by decide) g m cap (fl (pre.map (cy L))) rfl HO.out _ 1 1 [(cy L x).1, (cy L x).2] rfl rfl (two_cells W.drew _ _ _) (by omega) ?_; intro g' cap' w' hown hgr hloc hlt; (have hq : ∀ k, k < W.heap.size → k ≠ g → w'.heap[k]? = W.heap[k]? := fun k hk hk2 => (hgr.block k (by simp; omega) (by simpa using hk2)).trans (Deep.blk_alloc_lt W.drew _ _ hk)); have q1' := (World.cell?_of_block (hq (w.heap.size + 1) l3 hne)).trans q1; have q2' := (World.frozen?_of_block (hq (w.heap.size + 1) l3 hne)).trans q2; have HA := Lib.hid (And.intro hown (And.intro hgr (And.intro hloc hlt))); clear hown hgr hloc hlt q1 q2 hq)
        have hbA : Below W.heap.size W (W.drew.alloc (.cells #[.int .i64 (cy L x).1, .int .i64 (cy L x).2] 31)) := (show Below W.heap.size W W.drew from ⟨rfl, rfl, rfl, Nat.le_refl _, fun _ _ => rfl⟩).alloc (Nat.le_refl _) _
        have hgr := HA.out.2.1
        have hszA := hbA.size
        have hgW : W.grownBy w' (some g) := ⟨hgr.os.trans hbA.os, hgr.tape.trans hbA.tape, hgr.output.trans hbA.output, Nat.le_trans hbA.size hgr.size, fun k hk hk2 => (hgr.block k (by omega) hk2).trans (hbA.block k hk)⟩
        have hloc := HA.out.2.2.1
        have hg'l : w3.heap.size ≤ g' := by rcases hloc with h | h <;> (rw [h]; first | omega | (simp; omega))
        refine ⟨(KeepsOthers.of_grownBy hgW (fun j o e ho => ?_)).trans (KeepsOthers.setCell _ _ _), (Kp2.grow hgW (by omega) (by omega) (by omega) (by omega)).t (Kp2.put (Below.refl _ _) (by have := hgW.size; omega) (by have := hgW.size; omega) (by omega) (by omega) _), ⟨_, World.cell?_setCell_same' _ _ _ (by rw [q1']; rfl), .inr ⟨g', cap', ?_, hg'l, ?_⟩⟩, by rw [World.frozen?_setCell]; exact q2', (HH.out.grow hn (by omega) hgW hgl).put hn (by omega) _⟩
        · cases e
          obtain ⟨cur, hb, -⟩ := HW.out.body
          rw [hb] at ho
          cases ho
          rfl
        · rw [HM.out.1]; simp [HM.out.2]
        · rw [HM.out.1, fl_append, List.length_append, List.length_map, HM.out.2]
          exact (HA.out.1.setOther (by simp; omega) _)
  case done =>
    rintro D ys W hD rfl ⟨⟨v, hc, hL⟩, hf, hH⟩ hK
    have hne : List.map (cy L) (List.range L.length) = L := by
      apply List.ext_getElem?
      intro i
      by_cases hi : i < L.length
      · rw [List.getElem?_map, List.getElem?_range hi, cy_lt hi]; rfl
      · rw [List.getElem?_eq_none (by simpa using hi), List.getElem?_eq_none (by omega)]
    rw [hne] at hL
    rcases hL with ⟨hnil, -⟩ | ⟨g, cap, rfl, hgl, hown⟩
    · rw [hnil] at hl; simp at hl
    · gi_wp2
      have hW3 := hH.size
      refine ⟨by simp, .inl ⟨_, _, rfl, run_takeDeferred hK, ?_⟩⟩
      refine ⟨_, results_tmp rfl _ _ _, g, cap, rfl, by omega, hown.block ?_, hH.below.trans (below_put W D _ (by omega))⟩
      obtain ⟨cur, hb, -⟩ := hown.body
      refine World.putObj_heap_other (fun e => ?_)
      rw [e] at hb
      rw [hb] at hK
      cases hK
  case stop =>
    rintro D c pre W _ _ h _
    exact h.elim
end Go.Proofs.Ytgncjpakclbegaa
namespace Go.Proofs.Ytgncjpakclbegaa
open Go.RowKit Poly
set_option linter.unusedVariables false

theorem back_len (L : List P2) : (backL L).length = L.length := by cases L <;> simp [backL]
theorem cy_back (L : List P2) (h : 0 < L.length) (i : Nat) : cy (backL L) i = cy L (L.length - i % L.length) := by
  unfold cy
  rw [back_len]
  have hm := Nat.mod_lt i h
  generalize i % L.length = m at *
  cases L with
  | nil => simp at h
  | cons a l =>
    rcases Nat.eq_zero_or_pos m with rfl | hp
    · simp [backL]
    · have h1 : (a :: l).length - m < (a :: l).length := by simp at hm ⊢; omega
      rw [Nat.mod_eq_of_lt h1, getD_at h1, getD_at (by rw [back_len]; exact hm)]
      obtain ⟨q, rfl⟩ : ∃ q, m = q + 1 := ⟨m - 1, by omega⟩
      simp only [backL, List.getElem_cons_succ]
      rw [List.getElem_reverse]
      have e : (a :: l).length - (q + 1) = (l.length - 1 - q) + 1 := by simp at hm ⊢; omega
      simp only [e, List.getElem_cons_succ]
theorem okP_back {L : List P2} (h : okP L = true) : okP (backL L) = true := by
  have hl := okP_len h
  refine okP_of (by rw [back_len]; exact hl.1) (by rw [back_len]; exact hl.2) (fun i hi => ?_)
  rw [cy_back L (by omega)]
  exact okP_at h _
/-- what is turned round so far -/
def Bk (S : Nat) (L : List P2) (k : Nat) (W : World) : Prop :=
  W.heap[S]? = some (.cells #[.int .i64 (cy L 0).1, .int .i64 (cy L 0).2, .pointer (some ⟨S + (k - 1), 0, none⟩)] 103 (0, 0)) ∧ ∀ j, 0 < j → j < k → W.heap[S + j]? = some (.cells #[.int .i64 (cy L j).1, .int .i64 (cy L j).2, .pointer (some ⟨S + (j - 1), 0, none⟩)] 103 (0, 0))
set_option maxHeartbeats 4000000 in
set_option maxRecDepth 100000 in
theorem iBack {n₀ : Nat} {A : Nat → Nat} {L : List P2} {w : World} (hR : RingB n₀ A L w) (hn : n₀ ≤ w.heap.size) (hok : okP L = true) :
    Calls Try.prog 66 #[.agg #[.pointer (some ⟨A 0, 0, none⟩)]] w fun e w' => ∃ A' : Nat → Nat, (e = .returned (.agg #[.pointer (some ⟨A' 0, 0, none⟩)]) ∧ RingB w'.heap.size A' (backL L) w') ∧ Below w.heap.size w w' := by
  obtain ⟨hl3, hl12⟩ := okP_len hok
  have HR := Lib.hid (And.intro hR hok)
  obtain ⟨x0, x1, x2⟩ := hR.ring.cells 0
  have l0 : A 0 < w.heap.size := Nat.lt_of_lt_of_le (hR.ring.lt 0) hn
  have l1 : A 1 < w.heap.size := Nat.lt_of_lt_of_le (hR.ring.lt 1) hn
  have l0a : A 0 < w.heap.size + 1 := by omega
  have l0b : A 0 < w.heap.size + 1 + 1 := by omega
  have l0c : A 0 < w.heap.size + 1 + 1 + 1 := by omega
  have l0d : ¬ A 0 = w.heap.size + 1 + 1 := by omega
  clear hR hok
  go_enter Try.func66, Try.ntmps66
  go_wp2_with fail
  obtain ⟨V, hV⟩ : ∃ V, V = ((w.alloc (.cells #[.pointer (some ⟨A 0, 0, none⟩)] 63)).alloc (.cells #[.pointer none] 63)).alloc (.cells #[.int .i64 (cy L 0).1, .int .i64 (cy L 0).2, .pointer (some ⟨w.heap.size + 1 + 1, 0, none⟩)] 103) := ⟨_, rfl⟩
  obtain ⟨S, hS⟩ : ∃ S, S = w.heap.size + 1 + 1 := ⟨_, rfl⟩
  have hsV : V.heap.size = S + 1 := by rw [hV, hS]; simp
  have hbV : Below w.heap.size w V := by rw [hV]; exact (by repeat (first | assumption | exact Below.refl _ _ | (refine below_chain ?_ (by assumption) (by first | omega | (simp <;> omega) | simp)) | (refine Below.alloc ?_ (by first | omega | (simp <;> omega) | simp) _) | (apply below_drewN) | (apply below_drew) | (refine Below.setCell ?_ (by first | omega | (simp <;> omega) | simp) _)))
  have y0 : V.cell? ⟨w.heap.size, 0, none⟩ = some (.pointer (some ⟨A 0, 0, none⟩)) := by rw [hV]; simp [go_sem]
  have y1 : V.cell? ⟨w.heap.size + 1, 0, none⟩ = some (.pointer none) := by rw [hV]; simp [go_sem]
  have y2 : V.frozen? ⟨w.heap.size + 1, 0, none⟩ = false := by rw [hV]; simp [go_sem]
  have hBk : Bk S L 1 V := ⟨by
    rw [hV, hS]
    have := Deep.blk_alloc_new ((w.alloc (.cells #[.pointer (some ⟨A 0, 0, none⟩)] 63)).alloc (.cells #[.pointer none] 63)) (.cells #[.int .i64 (cy L 0).1, .int .i64 (cy L 0).2, .pointer (some ⟨w.heap.size + 1 + 1, 0, none⟩)] 103)
    simpa using this, fun j h1 h2 => by omega⟩
  rw [← hV, ← hS]
  have hSw : S = w.heap.size + 1 + 1 := hS
  have HV := Lib.hid (And.intro hbV (And.intro y0 (And.intro y1 (And.intro y2 (And.intro hBk hSw)))))
  have hwS : w.heap.size < S := by omega
  have hwS1 : w.heap.size + 1 < S := by omega
  clear hV hS hbV y0 y1 y2 hBk hSw x0 x1 x2 l0 l1 l0a l0b l0c l0d
  go_loopw [4] (fun c wr => ∃ k : Nat, (0 < k ∧ k ≤ L.length) ∧ c = .pointer (some ⟨A k, 0, none⟩) ∧ wr.heap.size = S + k ∧ Bk S L k wr ∧ Below S V wr) (fun c _ => restN A L.length c)
  case atStart => exact ⟨1, by omega, rfl, hsV, HV.out.2.2.2.2.1, Below.refl _ _⟩
  case round =>
    obtain ⟨k, ⟨hk0, hk⟩, rfl, hsz, hbk, hb⟩ := hrel
    have hRk : RingB n₀ A L wr := (HR.out.1.below (HV.out.1.mono hn)).below (hb.mono (by omega))
    have z0 := (hb.cell (p := ⟨w.heap.size, 0, none⟩) hwS).trans HV.out.2.1
    have hne := fun b => hRk.neq k 0 (b := b)
    rw [Nat.zero_mod] at hne
    obtain ⟨hb0, hbj⟩ := hbk
    have s2 : wr.cell? ⟨S, 2, none⟩ = some (.pointer (some ⟨S + (k - 1), 0, none⟩)) := by simp [World.cell?, hb0]
    have sf : wr.frozen? ⟨S, 2, none⟩ = false := by simp [World.frozen?, hb0]
    by_cases hlast : k = L.length
    · have hne' := hne false (by rw [hlast, Nat.mod_self]; rfl)
      have r1 := (hb.cell (p := ⟨w.heap.size + 1, 0, none⟩) hwS1).trans HV.out.2.2.1
      have r2 := (hb.frozen (p := ⟨w.heap.size + 1, 0, none⟩) hwS1).trans HV.out.2.2.2.1
      have HK := Lib.hid (And.intro hb0 (And.intro hbj (And.intro hb (And.intro hlast hsz))))
      clear hne hRk hb0 hbj hb hlast hsz
      go_wp2_with fail
      refine bodyPost_ret (v := .agg #[.pointer (some ⟨S, 0, none⟩)]) (by simp [results, Try.results66, go_sem, *]) rfl ?_
      have hlast := HK.out.2.2.2.1
      have hsz := HK.out.2.2.2.2
      have hpos : 0 < L.length := by omega
      have hbL := back_len L
      refine ⟨fun i => S + (if i % L.length = 0 then 0 else L.length - i % L.length), ⟨by simp, ?_⟩, ?_⟩
      · have hszf : (wr.setCell ⟨w.heap.size + 1, 0, none⟩ (.pointer (some ⟨S, 0, none⟩))).heap.size = S + L.length := by simp; omega
        have hmx : ∀ i, i % L.length < L.length := fun i => Nat.mod_lt i hpos
        have hm1 : ∀ i, (i + 1) % L.length = if i % L.length + 1 = L.length then 0 else i % L.length + 1 := fun i => by
          have := hmx i
          rw [Nat.add_mod, Nat.mod_eq_of_lt (show 1 < L.length by omega)]
          split
          · next e => rw [e, Nat.mod_self]
          · exact Nat.mod_eq_of_lt (by omega)
        refine RingB.of (fun i => ?_) (fun i => ?_) (fun i => by rw [hbL, Nat.add_mod_right]) (fun i j e => ?_)
        · have := hmx i
          rw [hszf]
          split <;> omega
        · have h1 := hmx i
          have h2 := hm1 i
          rw [cy_back L hpos i, h2]
          generalize i % L.length = m at *
          by_cases e0 : m = 0
          · subst e0
            rw [if_pos rfl, show S + 0 = S from rfl, Deep.blk_setCell_other _ _ _ _ (show S ≠ w.heap.size + 1 by omega)]
            refine HK.out.1.trans ?_
            have e1 : cy L (L.length - 0) = cy L 0 := by have := cy_add (L := L) 0; rw [Nat.zero_add] at this; exact this
            rw [e1, hlast, if_neg (show ¬ (0 + 1 = L.length) by omega)]
            rfl
          · rw [if_neg e0, Deep.blk_setCell_other _ _ _ _ (show S + (L.length - m) ≠ w.heap.size + 1 by omega), HK.out.2.1 (L.length - m) (by omega) (by omega)]
            by_cases e1 : m + 1 = L.length
            · rw [if_pos e1, if_pos rfl, show L.length - m - 1 = 0 by omega]
            · rw [if_neg e1, if_neg (by omega), show L.length - m - 1 = L.length - (m + 1) by omega]
        · have h1 := hmx i
          have h2 := hmx j
          rw [hbL]
          try dsimp only at e
          split at e <;> split at e <;> omega
      · exact (HV.out.1.trans (HK.out.2.2.1.mono (by omega))).setCell (p := ⟨w.heap.size + 1, 0, none⟩) (by simp) _
    · have hkl : k < L.length := by omega
      have hne' := hne true (by rw [Nat.mod_eq_of_lt hkl, decide_eq_false (by omega)]; rfl)
      obtain ⟨g0, g1, g2⟩ := hRk.ring.cells k
      have lk : A k < wr.heap.size := by have := hRk.ring.lt k; have := HV.out.1.size; omega
      have lkS : ¬ A k = S := by have := hRk.ring.lt k; have := HV.out.2.2.2.2.2; omega
      have lkS' : ¬ S = A k := fun h => lkS h.symm
      have lS : S < wr.heap.size := by omega
      have HK := Lib.hid (And.intro hb0 (And.intro hbj (And.intro hb (And.intro hRk hsz))))
      clear hne hRk hb0 hbj hb hlast hsz
      go_wp2_with fail
      go_region
      all_goals go_wp2_with fail
      go_roundw
      case rel =>
        have hsz := HK.out.2.2.2.2
        have hsc : (wr.setCell ⟨S, 2, none⟩ (.pointer (some ⟨wr.heap.size, 0, none⟩))).heap.size = wr.heap.size := by simp
        refine ⟨k + 1, ⟨by omega, by omega⟩, rfl, by simp; omega, ⟨?_, fun j h1 h2 => ?_⟩, below_drew (((HK.out.2.2.1.setCell (p := ⟨S, 2, none⟩) (Nat.le_refl _) _).alloc (by simp; omega) _))⟩
        · show ((wr.setCell ⟨S, 2, none⟩ (.pointer (some ⟨wr.heap.size, 0, none⟩))).alloc _).heap[S]? = _
          rw [Deep.blk_alloc_lt _ _ _ (by rw [hsc]; exact lS), Joins.block_setCell HK.out.1, hsz, show S + (k + 1 - 1) = S + k by omega]
          simp
        · show ((wr.setCell ⟨S, 2, none⟩ (.pointer (some ⟨wr.heap.size, 0, none⟩))).alloc _).heap[S + j]? = _
          by_cases e : j = k
          · subst e
            have := Deep.blk_alloc_new (wr.setCell ⟨S, 2, none⟩ (.pointer (some ⟨wr.heap.size, 0, none⟩))) (.cells #[.int .i64 (cy L j).1, .int .i64 (cy L j).2, .pointer (some ⟨S + (j - 1), 0, none⟩)] 103)
            rw [hsc, hsz] at this
            rw [hsz]
            exact this
          · rw [Deep.blk_alloc_lt _ _ _ (by rw [hsc]; omega), Deep.blk_setCell_other _ _ _ _ (show S + j ≠ S by omega)]
            exact HK.out.2.1 j h1 (by omega)
      case measure => rw [restN_eq HK.out.2.2.2.1.ring (by omega) (by omega), restN_eq HK.out.2.2.2.1.ring hk0 hk]; omega
end Go.Proofs.Ytgncjpakclbegaa
