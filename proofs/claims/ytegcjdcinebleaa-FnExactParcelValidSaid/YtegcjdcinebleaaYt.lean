/-
  What the program's functions on polygons answer: valid, areas, points on the sides and inside, where a point lies, convex.
-/
import Derived.Test.YtegcjdcinebleaaYs
import Derived.Test.YtegcjdcinebleaaYq
import Derived.Test.YtegcjdcinebleaaYo
import Derived.Test.YtegcjdcinebleaaYn
namespace Go.Proofs.Ytegcjdcinebleaa
open Go.RowKit Poly
set_option linter.unusedVariables false

section
variable {p : Option Addr} {c : Nat} {L : List P2} {w : World}
theorem polyV_ok (h : polyV L = true) : okP L = true := by unfold polyV at h; rw [Bool.and_eq_true] at h; exact h.1
theorem polyV_simple (h : polyV L = true) : simple L = true := by unfold polyV at h; rw [Bool.and_eq_true] at h; exact h.2
set_option maxHeartbeats 2000000 in
theorem iSimpleOf_no (h : Ints w p (fl L)) (hc : L.length ≤ c) (hl : L.length ≤ 4000000000000000000) (hv : polyV L = false) :
    Calls Try.prog 63 #[.slice p L.length c] w fun e w' => e = .returned (.tuple #[.agg #[.pointer none], .bool false]) ∧ Below w.heap.size w w' := by
  have H := Lib.hid h
  cases hok : okP L
  · have c1 := fun w h => Lib.hid (iOf_no p c L w h hl hok)
    clear h hv hok
    go_enter Try.func63, Try.ntmps63
    go_wp2_with ((go_at_call 67; (with_reducible refine ((c1 _ ?_).out).mono ?_); (focus ((exact H.out.below (by repeat (first | assumption | exact Below.refl _ _ | (refine below_chain ?_ (by assumption) (by first | omega | (simp <;> omega) | simp)) | (refine Below.alloc ?_ (by first | omega | (simp <;> omega) | simp) _) | (apply below_drewN) | (apply below_drew) | (refine Below.setCell ?_ (by first | omega | (simp <;> omega) | simp) _)))); done)); rintro e wa ⟨rfl, hb_wa⟩; have hs_wa := hb_wa.size; (try simp at hs_wa)); obtain ⟨hc_wa, hf_wa⟩ := bcell hb_wa; (try have hz_wa : w.heap.size < wa.heap.size := by omega))
    exact bodyPost_ret (v := .tuple #[.agg #[.pointer none], .bool false]) (by simp [results, Try.results63, go_sem, *]) rfl ⟨rfl, (by repeat (first | assumption | exact Below.refl _ _ | (refine below_chain ?_ (by assumption) (by first | omega | (simp <;> omega) | simp)) | (refine Below.alloc ?_ (by first | omega | (simp <;> omega) | simp) _) | (apply below_drewN) | (apply below_drew) | (refine Below.setCell ?_ (by first | omega | (simp <;> omega) | simp) _)))⟩
  · have hs : simple L = false := by unfold polyV at hv; rw [hok, Bool.true_and] at hv; exact hv
    have c1 := fun w h => Lib.hid (iOf_yes p c L w h hc hok)
    have c2 := fun (A : Nat → Nat) (n₀ : Nat) w h hn => Lib.hid (iSimple (n₀ := n₀) (A := A) (L := L) (w := w) h hn hok)
    rw [hs] at c2
    clear h hv hok hs
    go_enter Try.func63, Try.ntmps63
    go_wp2_with (first | ((go_at_call 67; (with_reducible refine ((c1 _ ?_).out).mono ?_); (focus ((exact H.out.below (by repeat (first | assumption | exact Below.refl _ _ | (refine below_chain ?_ (by assumption) (by first | omega | (simp <;> omega) | simp)) | (refine Below.alloc ?_ (by first | omega | (simp <;> omega) | simp) _) | (apply below_drewN) | (apply below_drew) | (refine Below.setCell ?_ (by first | omega | (simp <;> omega) | simp) _)))); done)); rintro e wa ⟨A, ⟨rfl, hR⟩, hb_wa⟩; have hs_wa := hb_wa.size; (try simp at hs_wa)); obtain ⟨hc_wa, hf_wa⟩ := bcell hb_wa; (try have hz_wa : w.heap.size < wa.heap.size := by omega)) | ((go_at_call 102; (with_reducible refine ((c2 A wa.heap.size _ ?_ ?_).out).mono ?_); (focus ((exact hR.below ((Below.refl _ _).alloc (Nat.le_refl _) _)); done)); (focus (((simp <;> omega)); done)); rintro e wb ⟨rfl, hb_wb⟩; have hs_wb := hb_wb.size; (try simp at hs_wb)); obtain ⟨hc_wb, hf_wb⟩ := bcell hb_wb; (try have hz_wb : w.heap.size < wb.heap.size := by omega)))
    have k0 : wa.cell? ⟨w.heap.size, 0, none⟩ = some (.pointer none) := by rw [hc_wa _ _ (by simp)]; simp [go_sem]
    have k1 : wb.cell? ⟨w.heap.size, 0, none⟩ = some (.pointer none) := (hc_wb _ _ (by simp; omega)).trans (cell_alloc_keep _ k0)
    exact bodyPost_ret (v := .tuple #[.agg #[.pointer none], .bool false]) (by simp [results, Try.results63, go_sem, *]) rfl ⟨rfl, (by repeat (first | assumption | exact Below.refl _ _ | (refine below_chain ?_ (by assumption) (by first | omega | (simp <;> omega) | simp)) | (refine Below.alloc ?_ (by first | omega | (simp <;> omega) | simp) _) | (apply below_drewN) | (apply below_drew) | (refine Below.setCell ?_ (by first | omega | (simp <;> omega) | simp) _)))⟩
set_option maxHeartbeats 2000000 in
theorem iSimpleOf_yes (h : Ints w p (fl L)) (hc : L.length ≤ c) (hv : polyV L = true) :
    Calls Try.prog 63 #[.slice p L.length c] w fun e w' => ∃ A : Nat → Nat, (e = .returned (.tuple #[.agg #[.pointer (some ⟨A 0, 0, none⟩)], .bool true]) ∧ RingB w'.heap.size A L w') ∧ Below w.heap.size w w' := by
  have H := Lib.hid h
  have hok := polyV_ok hv
  have hs := polyV_simple hv
  have c1 := fun w h => Lib.hid (iOf_yes p c L w h hc hok)
  have c2 := fun (A : Nat → Nat) (n₀ : Nat) w h hn => Lib.hid (iSimple (n₀ := n₀) (A := A) (L := L) (w := w) h hn hok)
  rw [hs] at c2
  clear h hv hok hs
  go_enter Try.func63, Try.ntmps63
  go_wp2_with (first | ((go_at_call 67; (with_reducible refine ((c1 _ ?_).out).mono ?_); (focus ((exact H.out.below (by repeat (first | assumption | exact Below.refl _ _ | (refine below_chain ?_ (by assumption) (by first | omega | (simp <;> omega) | simp)) | (refine Below.alloc ?_ (by first | omega | (simp <;> omega) | simp) _) | (apply below_drewN) | (apply below_drew) | (refine Below.setCell ?_ (by first | omega | (simp <;> omega) | simp) _)))); done)); rintro e wa ⟨A, ⟨rfl, hR⟩, hb_wa⟩; have hs_wa := hb_wa.size; (try simp at hs_wa)); obtain ⟨hc_wa, hf_wa⟩ := bcell hb_wa; (try have hz_wa : w.heap.size < wa.heap.size := by omega)) | ((go_at_call 102; (with_reducible refine ((c2 A wa.heap.size _ ?_ ?_).out).mono ?_); (focus ((exact hR.below ((Below.refl _ _).alloc (Nat.le_refl _) _)); done)); (focus (((simp <;> omega)); done)); rintro e wb ⟨rfl, hb_wb⟩; have hs_wb := hb_wb.size; (try simp at hs_wb)); obtain ⟨hc_wb, hf_wb⟩ := bcell hb_wb; (try have hz_wb : w.heap.size < wb.heap.size := by omega)))
  have k0 : wa.cell? ⟨w.heap.size, 0, none⟩ = some (.pointer none) := by rw [hc_wa _ _ (by simp)]; simp [go_sem]
  have k1 : wb.cell? ⟨w.heap.size, 0, none⟩ = some (.pointer none) := (hc_wb _ _ (by simp; omega)).trans (cell_alloc_keep _ k0)
  refine bodyPost_ret (v := .tuple #[.agg #[.pointer (some ⟨A 0, 0, none⟩)], .bool true]) (by simp [results, Try.results63, go_sem, *]) rfl ⟨A, ⟨rfl, ?_⟩, (by repeat (first | assumption | exact Below.refl _ _ | (refine below_chain ?_ (by assumption) (by first | omega | (simp <;> omega) | simp)) | (refine Below.alloc ?_ (by first | omega | (simp <;> omega) | simp) _) | (apply below_drewN) | (apply below_drew) | (refine Below.setCell ?_ (by first | omega | (simp <;> omega) | simp) _)))⟩
  have hRb : RingB wa.heap.size A L wb := hR.below (((Below.refl _ _).alloc (Nat.le_refl _) _).trans (hb_wb.mono (by simp)))
  exact (hRb.put k1 _).up (by simp; omega)

set_option maxHeartbeats 2000000 in
theorem iPolyValid_no (h : Ints w p (fl L)) (hc : L.length ≤ c) (hl : L.length ≤ 4000000000000000000) (hv : polyV L = false) :
    Calls Try.prog 19 #[.slice p L.length c] w fun e w' => e = .returned (.bool false) ∧ Below w.heap.size w w' := by
  have H := Lib.hid h
  have c1 := fun w h => Lib.hid (iSimpleOf_no (p := p) (c := c) (L := L) (w := w) h hc hl hv)
  clear h hv
  go_enter Try.func19, Try.ntmps19
  go_wp2_with ((go_at_call 63; (with_reducible refine ((c1 _ ?_).out).mono ?_); (focus ((exact H.out.below (by repeat (first | assumption | exact Below.refl _ _ | (refine below_chain ?_ (by assumption) (by first | omega | (simp <;> omega) | simp)) | (refine Below.alloc ?_ (by first | omega | (simp <;> omega) | simp) _) | (apply below_drewN) | (apply below_drew) | (refine Below.setCell ?_ (by first | omega | (simp <;> omega) | simp) _)))); done)); rintro e wa ⟨rfl, hb_wa⟩; have hs_wa := hb_wa.size; (try simp at hs_wa)); obtain ⟨hc_wa, hf_wa⟩ := bcell hb_wa; (try have hz_wa : w.heap.size < wa.heap.size := by omega))
  exact bodyPost_ret (v := .bool false) (by simp [results, Try.results19, go_sem, *]) rfl ⟨rfl, (by repeat (first | assumption | exact Below.refl _ _ | (refine below_chain ?_ (by assumption) (by first | omega | (simp <;> omega) | simp)) | (refine Below.alloc ?_ (by first | omega | (simp <;> omega) | simp) _) | (apply below_drewN) | (apply below_drew) | (refine Below.setCell ?_ (by first | omega | (simp <;> omega) | simp) _)))⟩
set_option maxHeartbeats 2000000 in
theorem iPolyValid_yes (h : Ints w p (fl L)) (hc : L.length ≤ c) (hv : polyV L = true) :
    Calls Try.prog 19 #[.slice p L.length c] w fun e w' => e = .returned (.bool true) ∧ Below w.heap.size w w' := by
  have H := Lib.hid h
  have hok : okP L = true := polyV_ok hv
  have c1 := fun w h => Lib.hid (iSimpleOf_yes (p := p) (c := c) (L := L) (w := w) h hc hv)
  have c2 := fun (A : Nat → Nat) (n₀ : Nat) w h hn => Lib.hid (iSimple (n₀ := n₀) (A := A) (L := L) (w := w) h hn hok)
  clear h hv hok
  go_enter Try.func19, Try.ntmps19
  go_wp2_with (first | ((go_at_call 63; (with_reducible refine ((c1 _ ?_).out).mono ?_); (focus ((exact H.out.below (by repeat (first | assumption | exact Below.refl _ _ | (refine below_chain ?_ (by assumption) (by first | omega | (simp <;> omega) | simp)) | (refine Below.alloc ?_ (by first | omega | (simp <;> omega) | simp) _) | (apply below_drewN) | (apply below_drew) | (refine Below.setCell ?_ (by first | omega | (simp <;> omega) | simp) _)))); done)); rintro e wa ⟨A, ⟨rfl, hR⟩, hb_wa⟩; have hs_wa := hb_wa.size; (try simp at hs_wa)); obtain ⟨hc_wa, hf_wa⟩ := bcell hb_wa; (try have hz_wa : w.heap.size < wa.heap.size := by omega)) | ((go_at_call 102; (with_reducible refine ((c2 A wa.heap.size _ ?_ ?_).out).mono ?_); (focus ((exact hR.below ((Below.refl _ _).alloc (Nat.le_refl _) _)); done)); (focus (((simp <;> omega)); done)); rintro e wb ⟨rfl, hb_wb⟩; have hs_wb := hb_wb.size; (try simp at hs_wb)); obtain ⟨hc_wb, hf_wb⟩ := bcell hb_wb; (try have hz_wb : w.heap.size < wb.heap.size := by omega)))
  exact bodyPost_ret (v := .bool true) (by simp [results, Try.results19, go_sem, *]) rfl ⟨rfl, (by repeat (first | assumption | exact Below.refl _ _ | (refine below_chain ?_ (by assumption) (by first | omega | (simp <;> omega) | simp)) | (refine Below.alloc ?_ (by first | omega | (simp <;> omega) | simp) _) | (apply below_drewN) | (apply below_drew) | (refine Below.setCell ?_ (by first | omega | (simp <;> omega) | simp) _)))⟩
set_option maxHeartbeats 2000000 in
theorem iPolyArea_no (h : Ints w p (fl L)) (hc : L.length ≤ c) (hl : L.length ≤ 4000000000000000000) (hv : okP L = false) :
    Calls Try.prog 22 #[.slice p L.length c] w fun e w' => e = .returned (.tuple #[.int .i64 0, .bool false]) ∧ Below w.heap.size w w' := by
  have H := Lib.hid h
  have c1 := fun w h => Lib.hid (iOf_no p c L w h hl hv)
  clear h hv
  go_enter Try.func22, Try.ntmps22
  go_wp2_with ((go_at_call 67; (with_reducible refine ((c1 _ ?_).out).mono ?_); (focus ((exact H.out.below (by repeat (first | assumption | exact Below.refl _ _ | (refine below_chain ?_ (by assumption) (by first | omega | (simp <;> omega) | simp)) | (refine Below.alloc ?_ (by first | omega | (simp <;> omega) | simp) _) | (apply below_drewN) | (apply below_drew) | (refine Below.setCell ?_ (by first | omega | (simp <;> omega) | simp) _)))); done)); rintro e wa ⟨rfl, hb_wa⟩; have hs_wa := hb_wa.size; (try simp at hs_wa)); obtain ⟨hc_wa, hf_wa⟩ := bcell hb_wa; (try have hz_wa : w.heap.size < wa.heap.size := by omega))
  exact bodyPost_ret (v := .tuple #[.int .i64 0, .bool false]) (by simp [results, Try.results22, go_sem, *]) rfl ⟨rfl, (by repeat (first | assumption | exact Below.refl _ _ | (refine below_chain ?_ (by assumption) (by first | omega | (simp <;> omega) | simp)) | (refine Below.alloc ?_ (by first | omega | (simp <;> omega) | simp) _) | (apply below_drewN) | (apply below_drew) | (refine Below.setCell ?_ (by first | omega | (simp <;> omega) | simp) _)))⟩
set_option maxHeartbeats 2000000 in
theorem iPolyArea_yes (h : Ints w p (fl L)) (hc : L.length ≤ c) (hv : okP L = true) :
    Calls Try.prog 22 #[.slice p L.length c] w fun e w' => e = .returned (.tuple #[.int .i64 (areaL L), .bool true]) ∧ Below w.heap.size w w' := by
  have H := Lib.hid h
  have hok : okP L = true := hv
  have c1 := fun w h => Lib.hid (iOf_yes p c L w h hc hv)
  have c2 := fun (A : Nat → Nat) (n₀ : Nat) w h hn => Lib.hid (iArea (n₀ := n₀) (A := A) (L := L) (w := w) h hn hok)
  clear h hv hok
  go_enter Try.func22, Try.ntmps22
  go_wp2_with (first | ((go_at_call 67; (with_reducible refine ((c1 _ ?_).out).mono ?_); (focus ((exact H.out.below (by repeat (first | assumption | exact Below.refl _ _ | (refine below_chain ?_ (by assumption) (by first | omega | (simp <;> omega) | simp)) | (refine Below.alloc ?_ (by first | omega | (simp <;> omega) | simp) _) | (apply below_drewN) | (apply below_drew) | (refine Below.setCell ?_ (by first | omega | (simp <;> omega) | simp) _)))); done)); rintro e wa ⟨A, ⟨rfl, hR⟩, hb_wa⟩; have hs_wa := hb_wa.size; (try simp at hs_wa)); obtain ⟨hc_wa, hf_wa⟩ := bcell hb_wa; (try have hz_wa : w.heap.size < wa.heap.size := by omega)) | ((go_at_call 70; (with_reducible refine ((c2 A wa.heap.size _ ?_ ?_).out).mono ?_); (focus ((exact hR.below ((Below.refl _ _).alloc (Nat.le_refl _) _)); done)); (focus (((simp <;> omega)); done)); rintro e wb ⟨rfl, hb_wb⟩; have hs_wb := hb_wb.size; (try simp at hs_wb)); obtain ⟨hc_wb, hf_wb⟩ := bcell hb_wb; (try have hz_wb : w.heap.size < wb.heap.size := by omega)))
  exact bodyPost_ret (v := .tuple #[.int .i64 (areaL L), .bool true]) (by simp [results, Try.results22, go_sem, *]) rfl ⟨rfl, (by repeat (first | assumption | exact Below.refl _ _ | (refine below_chain ?_ (by assumption) (by first | omega | (simp <;> omega) | simp)) | (refine Below.alloc ?_ (by first | omega | (simp <;> omega) | simp) _) | (apply below_drewN) | (apply below_drew) | (refine Below.setCell ?_ (by first | omega | (simp <;> omega) | simp) _)))⟩
set_option maxHeartbeats 2000000 in
theorem iPolyEdge_no (h : Ints w p (fl L)) (hc : L.length ≤ c) (hl : L.length ≤ 4000000000000000000) (hv : polyV L = false) :
    Calls Try.prog 28 #[.slice p L.length c] w fun e w' => e = .returned (.int .i64 (-1)) ∧ Below w.heap.size w w' := by
  have H := Lib.hid h
  have c1 := fun w h => Lib.hid (iSimpleOf_no (p := p) (c := c) (L := L) (w := w) h hc hl hv)
  clear h hv
  go_enter Try.func28, Try.ntmps28
  go_wp2_with ((go_at_call 63; (with_reducible refine ((c1 _ ?_).out).mono ?_); (focus ((exact H.out.below (by repeat (first | assumption | exact Below.refl _ _ | (refine below_chain ?_ (by assumption) (by first | omega | (simp <;> omega) | simp)) | (refine Below.alloc ?_ (by first | omega | (simp <;> omega) | simp) _) | (apply below_drewN) | (apply below_drew) | (refine Below.setCell ?_ (by first | omega | (simp <;> omega) | simp) _)))); done)); rintro e wa ⟨rfl, hb_wa⟩; have hs_wa := hb_wa.size; (try simp at hs_wa)); obtain ⟨hc_wa, hf_wa⟩ := bcell hb_wa; (try have hz_wa : w.heap.size < wa.heap.size := by omega))
  exact bodyPost_ret (v := .int .i64 (-1)) (by simp [results, Try.results28, go_sem, *]) rfl ⟨rfl, (by repeat (first | assumption | exact Below.refl _ _ | (refine below_chain ?_ (by assumption) (by first | omega | (simp <;> omega) | simp)) | (refine Below.alloc ?_ (by first | omega | (simp <;> omega) | simp) _) | (apply below_drewN) | (apply below_drew) | (refine Below.setCell ?_ (by first | omega | (simp <;> omega) | simp) _)))⟩
set_option maxHeartbeats 2000000 in
theorem iPolyEdge_yes (h : Ints w p (fl L)) (hc : L.length ≤ c) (hv : polyV L = true) :
    Calls Try.prog 28 #[.slice p L.length c] w fun e w' => e = .returned (.int .i64 (edgeL L)) ∧ Below w.heap.size w w' := by
  have H := Lib.hid h
  have hok : okP L = true := polyV_ok hv
  have c1 := fun w h => Lib.hid (iSimpleOf_yes (p := p) (c := c) (L := L) (w := w) h hc hv)
  have c2 := fun (A : Nat → Nat) (n₀ : Nat) w h hn => Lib.hid (iEdge (n₀ := n₀) (A := A) (L := L) (w := w) h hn hok)
  clear h hv hok
  go_enter Try.func28, Try.ntmps28
  go_wp2_with (first | ((go_at_call 63; (with_reducible refine ((c1 _ ?_).out).mono ?_); (focus ((exact H.out.below (by repeat (first | assumption | exact Below.refl _ _ | (refine below_chain ?_ (by assumption) (by first | omega | (simp <;> omega) | simp)) | (refine Below.alloc ?_ (by first | omega | (simp <;> omega) | simp) _) | (apply below_drewN) | (apply below_drew) | (refine Below.setCell ?_ (by first | omega | (simp <;> omega) | simp) _)))); done)); rintro e wa ⟨A, ⟨rfl, hR⟩, hb_wa⟩; have hs_wa := hb_wa.size; (try simp at hs_wa)); obtain ⟨hc_wa, hf_wa⟩ := bcell hb_wa; (try have hz_wa : w.heap.size < wa.heap.size := by omega)) | ((go_at_call 75; (with_reducible refine ((c2 A wa.heap.size _ ?_ ?_).out).mono ?_); (focus ((exact hR.below ((Below.refl _ _).alloc (Nat.le_refl _) _)); done)); (focus (((simp <;> omega)); done)); rintro e wb ⟨rfl, hb_wb⟩; have hs_wb := hb_wb.size; (try simp at hs_wb)); obtain ⟨hc_wb, hf_wb⟩ := bcell hb_wb; (try have hz_wb : w.heap.size < wb.heap.size := by omega)))
  exact bodyPost_ret (v := .int .i64 (edgeL L)) (by simp [results, Try.results28, go_sem, *]) rfl ⟨rfl, (by repeat (first | assumption | exact Below.refl _ _ | (refine below_chain ?_ (by assumption) (by first | omega | (simp <;> omega) | simp)) | (refine Below.alloc ?_ (by first | omega | (simp <;> omega) | simp) _) | (apply below_drewN) | (apply below_drew) | (refine Below.setCell ?_ (by first | omega | (simp <;> omega) | simp) _)))⟩
set_option maxHeartbeats 2000000 in
theorem iInsideM {n₀ : Nat} {A : Nat → Nat} (hR : RingB n₀ A L w) (hn : n₀ ≤ w.heap.size) (hok : okP L = true) :
    Calls Try.prog 71 #[.agg #[.pointer (some ⟨A 0, 0, none⟩)]] w fun e w' => e = .returned (.int .i64 (insideL L)) ∧ Below w.heap.size w w' := by
  have c1 := fun w h hn => Lib.hid (iArea (n₀ := n₀) (A := A) (L := L) (w := w) h hn hok)
  have c2 := fun w h hn => Lib.hid (iEdge (n₀ := n₀) (A := A) (L := L) (w := w) h hn hok)
  have HR := Lib.hid hR
  have ha := area_bd hok
  have he := edge_bd hok
  have hi : insideL L = (max (areaL L) (-(areaL L)) - edgeL L + 2).tdiv 2 := by unfold insideL; rw [show ((areaL L).natAbs : Int) = max (areaL L) (-(areaL L)) by omega]
  rw [hi]
  obtain ⟨a, hae⟩ : ∃ a, areaL L = a := ⟨_, rfl⟩
  obtain ⟨b, hbe⟩ : ∃ b, edgeL L = b := ⟨_, rfl⟩
  rw [hae] at c1 ha ⊢
  rw [hbe] at c2 he ⊢
  clear hR hok hi hae hbe
  go_enter Try.func71, Try.ntmps71
  go_wp2_with (first | ((go_at_call 70; (with_reducible refine ((c1 _ ?_ ?_).out).mono ?_); (focus ((exact HR.out.below ((show Below w.heap.size w _ from (by repeat (first | assumption | exact Below.refl _ _ | (refine below_chain ?_ (by assumption) (by first | omega | (simp <;> omega) | simp)) | (refine Below.alloc ?_ (by first | omega | (simp <;> omega) | simp) _) | (apply below_drewN) | (apply below_drew) | (refine Below.setCell ?_ (by first | omega | (simp <;> omega) | simp) _)))).mono hn)); done)); (focus (((simp <;> omega)); done)); rintro e wa ⟨rfl, hb_wa⟩; have hs_wa := hb_wa.size; (try simp at hs_wa)); obtain ⟨hc_wa, hf_wa⟩ := bcell hb_wa; (try have hz_wa : w.heap.size < wa.heap.size := by omega)) | ((go_at_call 75; (with_reducible refine ((c2 _ ?_ ?_).out).mono ?_); (focus ((exact HR.out.below ((show Below w.heap.size w _ from (by repeat (first | assumption | exact Below.refl _ _ | (refine below_chain ?_ (by assumption) (by first | omega | (simp <;> omega) | simp)) | (refine Below.alloc ?_ (by first | omega | (simp <;> omega) | simp) _) | (apply below_drewN) | (apply below_drew) | (refine Below.setCell ?_ (by first | omega | (simp <;> omega) | simp) _)))).mono hn)); done)); (focus (((first | omega | (simp <;> omega))); done)); rintro e wb ⟨rfl, hb_wb⟩; have hs_wb := hb_wb.size; (try simp at hs_wb)); obtain ⟨hc_wb, hf_wb⟩ := bcell hb_wb; (try have hz_wb : w.heap.size < wb.heap.size := by omega)))
  all_goals go_ret
  all_goals exact ⟨ret_int (by first | (rw [show max a (-a) = a by omega]) | (rw [show max a (-a) = -a by omega])), (by repeat (first | assumption | exact Below.refl _ _ | (refine below_chain ?_ (by assumption) (by first | omega | (simp <;> omega) | simp)) | (refine Below.alloc ?_ (by first | omega | (simp <;> omega) | simp) _) | (apply below_drewN) | (apply below_drew) | (refine Below.setCell ?_ (by first | omega | (simp <;> omega) | simp) _)))⟩
set_option maxHeartbeats 2000000 in
theorem iPolyInside_no (h : Ints w p (fl L)) (hc : L.length ≤ c) (hl : L.length ≤ 4000000000000000000) (hv : polyV L = false) :
    Calls Try.prog 26 #[.slice p L.length c] w fun e w' => e = .returned (.int .i64 (-1)) ∧ Below w.heap.size w w' := by
  have H := Lib.hid h
  have c1 := fun w h => Lib.hid (iSimpleOf_no (p := p) (c := c) (L := L) (w := w) h hc hl hv)
  clear h hv
  go_enter Try.func26, Try.ntmps26
  go_wp2_with ((go_at_call 63; (with_reducible refine ((c1 _ ?_).out).mono ?_); (focus ((exact H.out.below (by repeat (first | assumption | exact Below.refl _ _ | (refine below_chain ?_ (by assumption) (by first | omega | (simp <;> omega) | simp)) | (refine Below.alloc ?_ (by first | omega | (simp <;> omega) | simp) _) | (apply below_drewN) | (apply below_drew) | (refine Below.setCell ?_ (by first | omega | (simp <;> omega) | simp) _)))); done)); rintro e wa ⟨rfl, hb_wa⟩; have hs_wa := hb_wa.size; (try simp at hs_wa)); obtain ⟨hc_wa, hf_wa⟩ := bcell hb_wa; (try have hz_wa : w.heap.size < wa.heap.size := by omega))
  exact bodyPost_ret (v := .int .i64 (-1)) (by simp [results, Try.results26, go_sem, *]) rfl ⟨rfl, (by repeat (first | assumption | exact Below.refl _ _ | (refine below_chain ?_ (by assumption) (by first | omega | (simp <;> omega) | simp)) | (refine Below.alloc ?_ (by first | omega | (simp <;> omega) | simp) _) | (apply below_drewN) | (apply below_drew) | (refine Below.setCell ?_ (by first | omega | (simp <;> omega) | simp) _)))⟩
set_option maxHeartbeats 2000000 in
theorem iPolyInside_yes (h : Ints w p (fl L)) (hc : L.length ≤ c) (hv : polyV L = true) :
    Calls Try.prog 26 #[.slice p L.length c] w fun e w' => e = .returned (.int .i64 (insideL L)) ∧ Below w.heap.size w w' := by
  have H := Lib.hid h
  have hok : okP L = true := polyV_ok hv
  have c1 := fun w h => Lib.hid (iSimpleOf_yes (p := p) (c := c) (L := L) (w := w) h hc hv)
  have c2 := fun (A : Nat → Nat) (n₀ : Nat) w h hn => Lib.hid (iInsideM (n₀ := n₀) (A := A) (L := L) (w := w) h hn hok)
  clear h hv hok
  go_enter Try.func26, Try.ntmps26
  go_wp2_with (first | ((go_at_call 63; (with_reducible refine ((c1 _ ?_).out).mono ?_); (focus ((exact H.out.below (by repeat (first | assumption | exact Below.refl _ _ | (refine below_chain ?_ (by assumption) (by first | omega | (simp <;> omega) | simp)) | (refine Below.alloc ?_ (by first | omega | (simp <;> omega) | simp) _) | (apply below_drewN) | (apply below_drew) | (refine Below.setCell ?_ (by first | omega | (simp <;> omega) | simp) _)))); done)); rintro e wa ⟨A, ⟨rfl, hR⟩, hb_wa⟩; have hs_wa := hb_wa.size; (try simp at hs_wa)); obtain ⟨hc_wa, hf_wa⟩ := bcell hb_wa; (try have hz_wa : w.heap.size < wa.heap.size := by omega)) | ((go_at_call 71; (with_reducible refine ((c2 A wa.heap.size _ ?_ ?_).out).mono ?_); (focus ((exact hR.below ((Below.refl _ _).alloc (Nat.le_refl _) _)); done)); (focus (((simp <;> omega)); done)); rintro e wb ⟨rfl, hb_wb⟩; have hs_wb := hb_wb.size; (try simp at hs_wb)); obtain ⟨hc_wb, hf_wb⟩ := bcell hb_wb; (try have hz_wb : w.heap.size < wb.heap.size := by omega)))
  exact bodyPost_ret (v := .int .i64 (insideL L)) (by simp [results, Try.results26, go_sem, *]) rfl ⟨rfl, (by repeat (first | assumption | exact Below.refl _ _ | (refine below_chain ?_ (by assumption) (by first | omega | (simp <;> omega) | simp)) | (refine Below.alloc ?_ (by first | omega | (simp <;> omega) | simp) _) | (apply below_drewN) | (apply below_drew) | (refine Below.setCell ?_ (by first | omega | (simp <;> omega) | simp) _)))⟩
set_option maxHeartbeats 2000000 in
theorem iPolyConvex_no (h : Ints w p (fl L)) (hc : L.length ≤ c) (hl : L.length ≤ 4000000000000000000) (hv : polyV L = false) :
    Calls Try.prog 31 #[.slice p L.length c] w fun e w' => e = .returned (.bool false) ∧ Below w.heap.size w w' := by
  have H := Lib.hid h
  have c1 := fun w h => Lib.hid (iSimpleOf_no (p := p) (c := c) (L := L) (w := w) h hc hl hv)
  clear h hv
  go_enter Try.func31, Try.ntmps31
  go_wp2_with ((go_at_call 63; (with_reducible refine ((c1 _ ?_).out).mono ?_); (focus ((exact H.out.below (by repeat (first | assumption | exact Below.refl _ _ | (refine below_chain ?_ (by assumption) (by first | omega | (simp <;> omega) | simp)) | (refine Below.alloc ?_ (by first | omega | (simp <;> omega) | simp) _) | (apply below_drewN) | (apply below_drew) | (refine Below.setCell ?_ (by first | omega | (simp <;> omega) | simp) _)))); done)); rintro e wa ⟨rfl, hb_wa⟩; have hs_wa := hb_wa.size; (try simp at hs_wa)); obtain ⟨hc_wa, hf_wa⟩ := bcell hb_wa; (try have hz_wa : w.heap.size < wa.heap.size := by omega))
  exact bodyPost_ret (v := .bool false) (by simp [results, Try.results31, go_sem, *]) rfl ⟨rfl, (by repeat (first | assumption | exact Below.refl _ _ | (refine below_chain ?_ (by assumption) (by first | omega | (simp <;> omega) | simp)) | (refine Below.alloc ?_ (by first | omega | (simp <;> omega) | simp) _) | (apply below_drewN) | (apply below_drew) | (refine Below.setCell ?_ (by first | omega | (simp <;> omega) | simp) _)))⟩
set_option maxHeartbeats 2000000 in
theorem iPolyConvex_yes (h : Ints w p (fl L)) (hc : L.length ≤ c) (hv : polyV L = true) :
    Calls Try.prog 31 #[.slice p L.length c] w fun e w' => e = .returned (.bool (!(anyF (turnBad L) L.length))) ∧ Below w.heap.size w w' := by
  have H := Lib.hid h
  have hok : okP L = true := polyV_ok hv
  have c1 := fun w h => Lib.hid (iSimpleOf_yes (p := p) (c := c) (L := L) (w := w) h hc hv)
  have c2 := fun (A : Nat → Nat) (n₀ : Nat) w h hn => Lib.hid (iConvexM (n₀ := n₀) (A := A) (L := L) (w := w) h hn hok)
  clear h hv hok
  go_enter Try.func31, Try.ntmps31
  go_wp2_with (first | ((go_at_call 63; (with_reducible refine ((c1 _ ?_).out).mono ?_); (focus ((exact H.out.below (by repeat (first | assumption | exact Below.refl _ _ | (refine below_chain ?_ (by assumption) (by first | omega | (simp <;> omega) | simp)) | (refine Below.alloc ?_ (by first | omega | (simp <;> omega) | simp) _) | (apply below_drewN) | (apply below_drew) | (refine Below.setCell ?_ (by first | omega | (simp <;> omega) | simp) _)))); done)); rintro e wa ⟨A, ⟨rfl, hR⟩, hb_wa⟩; have hs_wa := hb_wa.size; (try simp at hs_wa)); obtain ⟨hc_wa, hf_wa⟩ := bcell hb_wa; (try have hz_wa : w.heap.size < wa.heap.size := by omega)) | ((go_at_call 78; (with_reducible refine ((c2 A wa.heap.size _ ?_ ?_).out).mono ?_); (focus ((exact hR.below ((Below.refl _ _).alloc (Nat.le_refl _) _)); done)); (focus (((simp <;> omega)); done)); rintro e wb ⟨rfl, hb_wb⟩; have hs_wb := hb_wb.size; (try simp at hs_wb)); obtain ⟨hc_wb, hf_wb⟩ := bcell hb_wb; (try have hz_wb : w.heap.size < wb.heap.size := by omega)))
  exact bodyPost_ret (v := .bool (!(anyF (turnBad L) L.length))) (by simp [results, Try.results31, go_sem, *]) rfl ⟨rfl, (by repeat (first | assumption | exact Below.refl _ _ | (refine below_chain ?_ (by assumption) (by first | omega | (simp <;> omega) | simp)) | (refine Below.alloc ?_ (by first | omega | (simp <;> omega) | simp) _) | (apply below_drewN) | (apply below_drew) | (refine Below.setCell ?_ (by first | omega | (simp <;> omega) | simp) _)))⟩
set_option maxHeartbeats 2000000 in
theorem iPolyPlace_no (h : Ints w p (fl L)) (hc : L.length ≤ c) (hl : L.length ≤ 4000000000000000000) (q : P2) (hv : polyV L = false) :
    Calls Try.prog 29 #[.slice p L.length c, .agg #[.int .i64 q.1, .int .i64 q.2]] w fun e w' => e = .returned (.tuple #[.int .i64 0, .bool false]) ∧ Below w.heap.size w w' := by
  have H := Lib.hid h
  have c1 := fun w h => Lib.hid (iSimpleOf_no (p := p) (c := c) (L := L) (w := w) h hc hl hv)
  clear h hv
  go_enter Try.func29, Try.ntmps29
  go_wp2_with ((go_at_call 63; (with_reducible refine ((c1 _ ?_).out).mono ?_); (focus ((exact H.out.below (by repeat (first | assumption | exact Below.refl _ _ | (refine below_chain ?_ (by assumption) (by first | omega | (simp <;> omega) | simp)) | (refine Below.alloc ?_ (by first | omega | (simp <;> omega) | simp) _) | (apply below_drewN) | (apply below_drew) | (refine Below.setCell ?_ (by first | omega | (simp <;> omega) | simp) _)))); done)); rintro e wa ⟨rfl, hb_wa⟩; have hs_wa := hb_wa.size; (try simp at hs_wa)); obtain ⟨hc_wa, hf_wa⟩ := bcell hb_wa; (try have hz_wa : w.heap.size < wa.heap.size := by omega))
  exact bodyPost_ret (v := .tuple #[.int .i64 0, .bool false]) (by simp [results, Try.results29, go_sem, *]) rfl ⟨rfl, (by repeat (first | assumption | exact Below.refl _ _ | (refine below_chain ?_ (by assumption) (by first | omega | (simp <;> omega) | simp)) | (refine Below.alloc ?_ (by first | omega | (simp <;> omega) | simp) _) | (apply below_drewN) | (apply below_drew) | (refine Below.setCell ?_ (by first | omega | (simp <;> omega) | simp) _)))⟩
set_option maxHeartbeats 2000000 in
theorem iPolyPlace_off (h : Ints w p (fl L)) (hc : L.length ≤ c) (q : P2) (hv : polyV L = true) (hq : pvP q = false) :
    Calls Try.prog 29 #[.slice p L.length c, .agg #[.int .i64 q.1, .int .i64 q.2]] w fun e w' => e = .returned (.tuple #[.int .i64 0, .bool false]) ∧ Below w.heap.size w w' := by
  have H := Lib.hid h
  have c1 := fun w h => Lib.hid (iSimpleOf_yes (p := p) (c := c) (L := L) (w := w) h hc hv)
  have c2 := fun w => Lib.hid (ipv_is q.1 q.2 false w hq)
  clear h hv hq
  go_enter Try.func29, Try.ntmps29
  go_wp2_with (first | ((go_at_call 63; (with_reducible refine ((c1 _ ?_).out).mono ?_); (focus ((exact H.out.below (by repeat (first | assumption | exact Below.refl _ _ | (refine below_chain ?_ (by assumption) (by first | omega | (simp <;> omega) | simp)) | (refine Below.alloc ?_ (by first | omega | (simp <;> omega) | simp) _) | (apply below_drewN) | (apply below_drew) | (refine Below.setCell ?_ (by first | omega | (simp <;> omega) | simp) _)))); done)); rintro e wa ⟨A, ⟨rfl, hR⟩, hb_wa⟩; have hs_wa := hb_wa.size; (try simp at hs_wa)); obtain ⟨hc_wa, hf_wa⟩ := bcell hb_wa; (try have hz_wa : w.heap.size < wa.heap.size := by omega)) | ((go_at_call 36; (with_reducible refine ((c2 _).out).mono ?_); rintro e wb ⟨rfl, hb_wb⟩; have hs_wb := hb_wb.size; (try simp at hs_wb)); obtain ⟨hc_wb, hf_wb⟩ := bcell hb_wb; (try have hz_wb : w.heap.size < wb.heap.size := by omega)))
  exact bodyPost_ret (v := .tuple #[.int .i64 0, .bool false]) (by simp [results, Try.results29, go_sem, *]) rfl ⟨rfl, (by repeat (first | assumption | exact Below.refl _ _ | (refine below_chain ?_ (by assumption) (by first | omega | (simp <;> omega) | simp)) | (refine Below.alloc ?_ (by first | omega | (simp <;> omega) | simp) _) | (apply below_drewN) | (apply below_drew) | (refine Below.setCell ?_ (by first | omega | (simp <;> omega) | simp) _)))⟩
set_option maxHeartbeats 2000000 in
theorem iPolyPlace_yes (h : Ints w p (fl L)) (hc : L.length ≤ c) (q : P2) (hv : polyV L = true) (hq : pvP q = true) :
    Calls Try.prog 29 #[.slice p L.length c, .agg #[.int .i64 q.1, .int .i64 q.2]] w fun e w' => e = .returned (.tuple #[.int .i64 (placeL L q), .bool true]) ∧ Below w.heap.size w w' := by
  have H := Lib.hid h
  have hok := polyV_ok hv
  have c1 := fun w h => Lib.hid (iSimpleOf_yes (p := p) (c := c) (L := L) (w := w) h hc hv)
  have c2 := fun w => Lib.hid (ipv_is q.1 q.2 true w hq)
  have c3 := fun (A : Nat → Nat) (n₀ : Nat) w h hn => Lib.hid (iLocate (n₀ := n₀) (A := A) (L := L) (w := w) h hn hok hq)
  clear h hv hq hok
  go_enter Try.func29, Try.ntmps29
  go_wp2_with (first | ((go_at_call 63; (with_reducible refine ((c1 _ ?_).out).mono ?_); (focus ((exact H.out.below (by repeat (first | assumption | exact Below.refl _ _ | (refine below_chain ?_ (by assumption) (by first | omega | (simp <;> omega) | simp)) | (refine Below.alloc ?_ (by first | omega | (simp <;> omega) | simp) _) | (apply below_drewN) | (apply below_drew) | (refine Below.setCell ?_ (by first | omega | (simp <;> omega) | simp) _)))); done)); rintro e wa ⟨A, ⟨rfl, hR⟩, hb_wa⟩; have hs_wa := hb_wa.size; (try simp at hs_wa)); obtain ⟨hc_wa, hf_wa⟩ := bcell hb_wa; (try have hz_wa : w.heap.size < wa.heap.size := by omega)) | ((go_at_call 36; (with_reducible refine ((c2 _).out).mono ?_); rintro e wb ⟨rfl, hb_wb⟩; have hs_wb := hb_wb.size; (try simp at hs_wb)); obtain ⟨hc_wb, hf_wb⟩ := bcell hb_wb; (try have hz_wb : w.heap.size < wb.heap.size := by omega)) | ((go_at_call 76; (with_reducible refine ((c3 A wa.heap.size _ ?_ ?_).out).mono ?_); (focus ((exact hR.below ((show Below wa.heap.size wa _ from (by repeat (first | assumption | exact Below.refl _ _ | (refine below_chain ?_ (by assumption) (by first | omega | (simp <;> omega) | simp)) | (refine Below.alloc ?_ (by first | omega | (simp <;> omega) | simp) _) | (apply below_drewN) | (apply below_drew) | (refine Below.setCell ?_ (by first | omega | (simp <;> omega) | simp) _)))))); done)); (focus (((first | omega | (simp <;> omega))); done)); rintro e wd ⟨rfl, hb_wd⟩; have hs_wd := hb_wd.size; (try simp at hs_wd)); obtain ⟨hc_wd, hf_wd⟩ := bcell hb_wd; (try have hz_wd : w.heap.size < wd.heap.size := by omega)))
  exact bodyPost_ret (v := .tuple #[.int .i64 (placeL L q), .bool true]) (by simp [results, Try.results29, go_sem, *]) rfl ⟨rfl, (by repeat (first | assumption | exact Below.refl _ _ | (refine below_chain ?_ (by assumption) (by first | omega | (simp <;> omega) | simp)) | (refine Below.alloc ?_ (by first | omega | (simp <;> omega) | simp) _) | (apply below_drewN) | (apply below_drew) | (refine Below.setCell ?_ (by first | omega | (simp <;> omega) | simp) _)))⟩
end
end Go.Proofs.Ytegcjdcinebleaa
