/-
  For every number and every list of runs the law FnExactAdjustHeights returns true: impl.AdjustHeights answers the adjusted heights as the reference model does, in every field, leaves the runs as they were, and its answer owns its memory. Condition: the package's error variable holds the error that its initialiser lays (the card ties that to the program's text, pruned to the packages that the law loads); every int and every list are taken.
-/
import Derived.Test.YtoaomjchaihkaaaDoorCards
import Derived.Test.YtoaomjchaihkaaaDoorEd
import Derived.Test.YtoaomjchaihkaaaDoorOpN
import Derived.Test.YtoaomjchaihkaaaDoorEo
namespace Go.Proofs.YtoaomjchaihkaaaDoor.fnExactAdjustHeights
open Go.ChangeShapes Go.WideShapes Go.ChangeAt Go.RowKit
set_option linter.unusedVariables false

theorem below_grew {B g : Nat} {a w w' : World} (h : Below B a w) (hg : grew w w' g) (hB : B ≤ g) (hs : B ≤ w.heap.size) : Below B a w' := below_gr h hg.1 hB hs
set_option maxHeartbeats 8000000 in
theorem walk_yes (w : World) (N n : Nat) (p : Option Addr) (c : Nat) (rs : List Rn) (H : Hid (Runs w p rs)) (he : Hid (ErrV w)) (h1 : adjOk (N : Int) rs = true) (hNn : N = n + 1) :
    Calls Tryd.prog 9 #[.int .i64 N, .slice p rs.length c] w fun e w' => e = .returned (.bool true) ∧ Below w.heap.size w w' := by
  have hn := (whole_iff.1 (adj_true h1 hNn).1).1
  have hl := (nOk_true hn).2.2.1
  have hl3 : ¬ (1048576 : Int) < (rs.length : Int) := by omega
  have hl2 : rs.length ≤ 1048576 := by omega
  have hl4 : rs.length ≤ 4000000000000000000 := by omega
  have hl9 : rs.length ≤ 9223372036854775807 := by omega
  have hn6 : N ≤ 6 := by have := (nOk_true hn).2.1; omega
  have kS := fun w p c h => Lib.hid (sHeights_yes N n p c rs.length rs w h h1 rfl hNn)
  have kI := fun w p c h => Lib.hid (iHeights_yes N n p c rs.length rs w h h1 rfl hNn)
  obtain ⟨qs, hqs⟩ : ∃ qs, hqs n rs N = qs := ⟨_, rfl⟩
  have hzl : qs.length = N := by rw [← hqs]; exact hqs_len _ _ _
  rw [hqs] at kS kI
  have hfl : (flq qs).length = N * 2 := by rw [flq_len, hzl]
  have HQ := Lib.hid (And.intro hzl hfl)
  have hn1 : ¬ (1 : Int) + (rs.length : Int) * 4 < 0 := by omega
  have hn2 : ¬ (1 : Int) + (N : Int) * 2 < 0 := by omega
  clear h1 hn hqs hzl hfl hNn
  go_enter Tryd.func9, Tryd.ntmps9
  go_wp2_with ((go_at_call 35; (with_reducible refine (szRuns _ _ _ _ hl9).mono ?_); rintro e w' ⟨rfl, rfl⟩))
  go_wp2_with ((go_at_call 36; (with_reducible refine (toRuns p c rs _ ?_ hl2).mono ?_); (focus ((exact H.out.below (by repeat (first | assumption | exact Below.refl _ _ | (refine below_chain ?_ (by assumption) (by first | omega | (simp <;> omega) | simp)) | (refine Below.alloc ?_ (by first | omega | (simp <;> omega) | simp) _) | (apply below_drewN) | (apply below_drew) | (refine Below.setCell ?_ (by first | omega | (simp <;> omega) | simp) _)))); done)); rintro e wa ⟨rfl, oa, hb_wa⟩; have hs_wa := hb_wa.size; (try simp at hs_wa)))
  have OA := Lib.hid oa
  clear oa
  go_wp2_with ((go_at_call 13; (with_reducible refine ((kS _ _ _ ?_).out).mono ?_); (focus ((exact OA.out.runs); done)); rintro e ws ⟨gs, cs, rfl, hgs, os, hb_ws⟩; have hs_ws := hb_ws.size; (try simp at hs_ws)))
  have OS := Lib.hid os
  have hls := os.lt
  clear os
  go_wp2_with ((go_at_call 36; (with_reducible refine (toRuns p c rs _ ?_ hl2).mono ?_); (focus ((exact H.out.below (by repeat (first | assumption | exact Below.refl _ _ | (refine below_chain ?_ (by assumption) (by first | omega | (simp <;> omega) | simp)) | (refine Below.alloc ?_ (by first | omega | (simp <;> omega) | simp) _) | (apply below_drewN) | (apply below_drew) | (refine Below.setCell ?_ (by first | omega | (simp <;> omega) | simp) _)))); done)); rintro e wb ⟨rfl, ob, hb_wb⟩; have hs_wb := hb_wb.size; (try simp at hs_wb)))
  have OB := Lib.hid ob
  have hlb := ob.lt
  clear ob
  go_wp2_with ((go_at_call 12; (with_reducible refine ((kI _ _ _ ?_).out).mono ?_); (focus ((exact ⟨OB.out.runs, he.out.below (by repeat (first | assumption | exact Below.refl _ _ | (refine below_chain ?_ (by assumption) (by first | omega | (simp <;> omega) | simp)) | (refine Below.alloc ?_ (by first | omega | (simp <;> omega) | simp) _) | (apply below_drewN) | (apply below_drew) | (refine Below.setCell ?_ (by first | omega | (simp <;> omega) | simp) _)))⟩); done)); rintro e wi ⟨gi, ci, rfl, hgi, oi, hb_wi⟩; have hs_wi := hb_wi.size; (try simp at hs_wi)))
  have OI := Lib.hid oi
  have hli := oi.lt
  clear oi
  go_wp2_with ((go_at_call 37; (with_reducible refine (eqQuos _ _ _ _ N qs _ ?_ ?_ HQ.out.1 (by omega)).mono ?_); (focus ((exact OI.out.quos); done)); (focus ((exact (OS.out.below (by repeat (first | assumption | exact Below.refl _ _ | (refine below_chain ?_ (by assumption) (by first | omega | (simp <;> omega) | simp)) | (refine Below.alloc ?_ (by first | omega | (simp <;> omega) | simp) _) | (apply below_drewN) | (apply below_drew) | (refine Below.setCell ?_ (by first | omega | (simp <;> omega) | simp) _)))).quos); done)); rintro e w1 ⟨rfl, hb_w1⟩; have hs_w1 := hb_w1.size; (try simp at hs_w1)))
  go_wp2_with ((go_at_call 36; (with_reducible refine (toRuns p c rs _ ?_ hl2).mono ?_); (focus ((exact H.out.below (by repeat (first | assumption | exact Below.refl _ _ | (refine below_chain ?_ (by assumption) (by first | omega | (simp <;> omega) | simp)) | (refine Below.alloc ?_ (by first | omega | (simp <;> omega) | simp) _) | (apply below_drewN) | (apply below_drew) | (refine Below.setCell ?_ (by first | omega | (simp <;> omega) | simp) _)))); done)); rintro e w2 ⟨rfl, oc, hb_w2⟩; have hs_w2 := hb_w2.size; (try simp at hs_w2)))
  have OC := Lib.hid oc
  clear oc
  go_wp2_with ((go_at_call 38; (with_reducible refine (eqRuns _ _ _ _ rs _ ?_ ?_ hl4).mono ?_); (focus ((exact (OB.out.below (by repeat (first | assumption | exact Below.refl _ _ | (refine below_chain ?_ (by assumption) (by first | omega | (simp <;> omega) | simp)) | (refine Below.alloc ?_ (by first | omega | (simp <;> omega) | simp) _) | (apply below_drewN) | (apply below_drew) | (refine Below.setCell ?_ (by first | omega | (simp <;> omega) | simp) _)))).runs); done)); (focus ((exact OC.out.runs); done)); rintro e w3 ⟨rfl, hb_w3⟩; have hs_w3 := hb_w3.size; (try simp at hs_w3)))
  have OB3 := Lib.hid (OB.out.below (w' := w3) (by repeat (first | assumption | exact Below.refl _ _ | (refine below_chain ?_ (by assumption) (by first | omega | (simp <;> omega) | simp)) | (refine Below.alloc ?_ (by first | omega | (simp <;> omega) | simp) _) | (apply below_drewN) | (apply below_drew) | (refine Below.setCell ?_ (by first | omega | (simp <;> omega) | simp) _))))
  have OI3 := Lib.hid (OI.out.below (w' := w3) (by repeat (first | assumption | exact Below.refl _ _ | (refine below_chain ?_ (by assumption) (by first | omega | (simp <;> omega) | simp)) | (refine Below.alloc ?_ (by first | omega | (simp <;> omega) | simp) _) | (apply below_drewN) | (apply below_drew) | (refine Below.setCell ?_ (by first | omega | (simp <;> omega) | simp) _))))
  have OS3 := Lib.hid (OS.out.below (w' := w3) (by repeat (first | assumption | exact Below.refl _ _ | (refine below_chain ?_ (by assumption) (by first | omega | (simp <;> omega) | simp)) | (refine Below.alloc ?_ (by first | omega | (simp <;> omega) | simp) _) | (apply below_drewN) | (apply below_drew) | (refine Below.setCell ?_ (by first | omega | (simp <;> omega) | simp) _))))
  have hB3 : Below w.heap.size w w3 := (by repeat (first | assumption | exact Below.refl _ _ | (refine below_chain ?_ (by assumption) (by first | omega | (simp <;> omega) | simp)) | (refine Below.alloc ?_ (by first | omega | (simp <;> omega) | simp) _) | (apply below_drewN) | (apply below_drew) | (refine Below.setCell ?_ (by first | omega | (simp <;> omega) | simp) _)))
  have g1 : w.heap.size ≤ gs := by omega
  have g2 : gs < ws.heap.size := hls
  have g3 : ws.heap.size < gi := by omega
  have g4 : gi < w3.heap.size := by omega
  have g5 : w.heap.size ≤ ws.heap.size := by omega
  have g6 : w.heap.size ≤ w3.heap.size := by omega
  clear OC OA OB OI OS hb_wa hb_ws hb_wb hb_wi hb_w1 hb_w2 hb_w3
  go_wp2_with (go_at_call 39; (with_reducible refine (markRuns _ _ _ _ _ OB3.out hl2).mono ?_); rintro e w4 ⟨rfl, om, hg4⟩; have hs4 := Nat.le_of_eq hg4.2; have hs4' := Nat.le_of_eq hg4.2.symm; have HG4 := Lib.hid hg4; clear hg4 om)
  have hB4 : Below w.heap.size w w4 := below_grew hB3 HG4.out (by omega) (by omega)
  have OI4 := Lib.hid (OI3.out.grown HG4.out.1 (by omega))
  have OS4 := Lib.hid (OS3.out.grown HG4.out.1 (by omega))
  clear OB3 OI3 OS3 hB3
  go_wp2_with ((go_at_call 37; (with_reducible refine (eqQuos _ _ _ _ N qs _ ?_ ?_ HQ.out.1 (by omega)).mono ?_); (focus ((exact OI4.out.quos); done)); (focus ((exact OS4.out.quos); done)); rintro e w5 ⟨rfl, hb_w5⟩; have hs_w5 := hb_w5.size; (try simp at hs_w5)))
  have OI5 := Lib.hid (OI4.out.below (w' := w5) (by repeat (first | assumption | exact Below.refl _ _ | (refine below_chain ?_ (by assumption) (by first | omega | (simp <;> omega) | simp)) | (refine Below.alloc ?_ (by first | omega | (simp <;> omega) | simp) _) | (apply below_drewN) | (apply below_drew) | (refine Below.setCell ?_ (by first | omega | (simp <;> omega) | simp) _))))
  have OS5 := Lib.hid (OS4.out.below (w' := w5) (by repeat (first | assumption | exact Below.refl _ _ | (refine below_chain ?_ (by assumption) (by first | omega | (simp <;> omega) | simp)) | (refine Below.alloc ?_ (by first | omega | (simp <;> omega) | simp) _) | (apply below_drewN) | (apply below_drew) | (refine Below.setCell ?_ (by first | omega | (simp <;> omega) | simp) _))))
  have hB5 : Below w.heap.size w w5 := (by repeat (first | assumption | exact Below.refl _ _ | (refine below_chain ?_ (by assumption) (by first | omega | (simp <;> omega) | simp)) | (refine Below.alloc ?_ (by first | omega | (simp <;> omega) | simp) _) | (apply below_drewN) | (apply below_drew) | (refine Below.setCell ?_ (by first | omega | (simp <;> omega) | simp) _)))
  clear OI4 OS4 hB4 hb_w5
  go_wp2_with (go_at_call 40; (with_reducible refine (markQuos _ _ _ _ _ OI5.out (by omega)).mono ?_); rintro e w6 ⟨rfl, om, hg6⟩; have hs6 := Nat.le_of_eq hg6.2; have hs6' := Nat.le_of_eq hg6.2.symm; have HG6 := Lib.hid (And.intro hg6 om); clear hg6 om)
  have hB6 : Below w.heap.size w w6 := below_grew hB5 HG6.out.1 (by omega) (by omega)
  have OS6 := Lib.hid (OS5.out.grown HG6.out.1.1 (by omega))
  have OI6 := Lib.hid HG6.out.2
  clear OI5 OS5 hB5 HG6
  go_wp2_with (go_at_call 41; (with_reducible refine (heldQuos _ _ _ (flq qs) _ OI6.out HQ.out.2 (by omega)).mono ?_); rintro e w' ⟨rfl, rfl⟩)
  go_wp2_with ((go_at_call 36; (with_reducible refine (toRuns p c rs _ ?_ hl2).mono ?_); (focus ((exact H.out.below (by repeat (first | assumption | exact Below.refl _ _ | (refine below_chain ?_ (by assumption) (by first | omega | (simp <;> omega) | simp)) | (refine Below.alloc ?_ (by first | omega | (simp <;> omega) | simp) _) | (apply below_drewN) | (apply below_drew) | (refine Below.setCell ?_ (by first | omega | (simp <;> omega) | simp) _)))); done)); rintro e w7 ⟨rfl, oc, hb_w7⟩; have hs_w7 := hb_w7.size; (try simp at hs_w7)))
  have OC := Lib.hid oc
  clear oc
  go_wp2_with ((go_at_call 12; (with_reducible refine ((kI _ _ _ ?_).out).mono ?_); (focus ((exact ⟨OC.out.runs, he.out.below (by repeat (first | assumption | exact Below.refl _ _ | (refine below_chain ?_ (by assumption) (by first | omega | (simp <;> omega) | simp)) | (refine Below.alloc ?_ (by first | omega | (simp <;> omega) | simp) _) | (apply below_drewN) | (apply below_drew) | (refine Below.setCell ?_ (by first | omega | (simp <;> omega) | simp) _)))⟩); done)); rintro e w8 ⟨gj, cj, rfl, hgj, oj, hb_w8⟩; have hs_w8 := hb_w8.size; (try simp at hs_w8)))
  have OJ := Lib.hid oj
  clear oj
  go_wp2_with ((go_at_call 37; (with_reducible refine (eqQuos _ _ _ _ N qs _ ?_ ?_ HQ.out.1 (by omega)).mono ?_); (focus ((exact OJ.out.quos); done)); (focus ((exact (OS6.out.below (by repeat (first | assumption | exact Below.refl _ _ | (refine below_chain ?_ (by assumption) (by first | omega | (simp <;> omega) | simp)) | (refine Below.alloc ?_ (by first | omega | (simp <;> omega) | simp) _) | (apply below_drewN) | (apply below_drew) | (refine Below.setCell ?_ (by first | omega | (simp <;> omega) | simp) _)))).quos); done)); rintro e w9 ⟨rfl, hb_w9⟩; have hs_w9 := hb_w9.size; (try simp at hs_w9)))
  have OI9 := Lib.hid (OI6.out.below (w' := w9) (by repeat (first | assumption | exact Below.refl _ _ | (refine below_chain ?_ (by assumption) (by first | omega | (simp <;> omega) | simp)) | (refine Below.alloc ?_ (by first | omega | (simp <;> omega) | simp) _) | (apply below_drewN) | (apply below_drew) | (refine Below.setCell ?_ (by first | omega | (simp <;> omega) | simp) _))))
  go_wp2_with (go_at_call 41; (with_reducible refine (heldQuos _ _ _ (flq qs) _ OI9.out HQ.out.2 (by omega)).mono ?_); rintro e w' ⟨rfl, rfl⟩)
  go_ret
  exact ⟨rfl, (by repeat (first | assumption | exact Below.refl _ _ | (refine below_chain ?_ (by assumption) (by first | omega | (simp <;> omega) | simp)) | (refine Below.alloc ?_ (by first | omega | (simp <;> omega) | simp) _) | (apply below_drewN) | (apply below_drew) | (refine Below.setCell ?_ (by first | omega | (simp <;> omega) | simp) _)))⟩
set_option maxHeartbeats 8000000 in
theorem walk_no (w : World) (n : Int) (p : Option Addr) (c : Nat) (rs : List Rn) (H : Hid (Runs w p rs)) (he : Hid (ErrV w)) (hl2 : rs.length ≤ 1048576) (hno : adjOk n rs = false) :
    Calls Tryd.prog 9 #[.int .i64 n, .slice p rs.length c] w fun e w' => e = .returned (.bool true) ∧ Below w.heap.size w w' := by
  have kS := fun w p c h => Lib.hid (sHeights_no n p c rs.length rs w h rfl (by omega) hno)
  have kI := fun w p c h => Lib.hid (iHeights_no n p c rs.length rs w h rfl (by omega) hno)
  have hl3 : ¬ (1048576 : Int) < (rs.length : Int) := by omega
  have hl4 : rs.length ≤ 4000000000000000000 := by omega
  have hl9 : rs.length ≤ 9223372036854775807 := by omega
  have hn1 : ¬ (1 : Int) + (rs.length : Int) * 4 < 0 := by omega
  go_enter Tryd.func9, Tryd.ntmps9
  go_wp2_with ((go_at_call 35; (with_reducible refine (szRuns _ _ _ _ hl9).mono ?_); rintro e w' ⟨rfl, rfl⟩))
  go_wp2_with ((go_at_call 36; (with_reducible refine (toRuns p c rs _ ?_ hl2).mono ?_); (focus ((exact H.out.below (by repeat (first | assumption | exact Below.refl _ _ | (refine below_chain ?_ (by assumption) (by first | omega | (simp <;> omega) | simp)) | (refine Below.alloc ?_ (by first | omega | (simp <;> omega) | simp) _) | (apply below_drewN) | (apply below_drew) | (refine Below.setCell ?_ (by first | omega | (simp <;> omega) | simp) _)))); done)); rintro e wa ⟨rfl, oa, hb_wa⟩; have hs_wa := hb_wa.size; (try simp at hs_wa)))
  have OA := Lib.hid oa
  clear oa
  go_wp2_with ((go_at_call 13; (with_reducible refine ((kS _ _ _ ?_).out).mono ?_); (focus ((exact OA.out.runs); done)); rintro e ws ⟨⟨v, rfl⟩, hb_ws⟩; have hs_ws := hb_ws.size; (try simp at hs_ws)))
  go_wp2_with ((go_at_call 36; (with_reducible refine (toRuns p c rs _ ?_ hl2).mono ?_); (focus ((exact H.out.below (by repeat (first | assumption | exact Below.refl _ _ | (refine below_chain ?_ (by assumption) (by first | omega | (simp <;> omega) | simp)) | (refine Below.alloc ?_ (by first | omega | (simp <;> omega) | simp) _) | (apply below_drewN) | (apply below_drew) | (refine Below.setCell ?_ (by first | omega | (simp <;> omega) | simp) _)))); done)); rintro e wb ⟨rfl, ob, hb_wb⟩; have hs_wb := hb_wb.size; (try simp at hs_wb)))
  have OB := Lib.hid ob
  have hlb := ob.lt
  clear ob
  go_wp2_with ((go_at_call 12; (with_reducible refine ((kI _ _ _ ?_).out).mono ?_); (focus ((exact ⟨OB.out.runs, he.out.below (by repeat (first | assumption | exact Below.refl _ _ | (refine below_chain ?_ (by assumption) (by first | omega | (simp <;> omega) | simp)) | (refine Below.alloc ?_ (by first | omega | (simp <;> omega) | simp) _) | (apply below_drewN) | (apply below_drew) | (refine Below.setCell ?_ (by first | omega | (simp <;> omega) | simp) _)))⟩); done)); rintro e wi ⟨⟨qi, di, rfl⟩, hb_wi⟩; have hs_wi := hb_wi.size; (try simp at hs_wi)))
  go_wp2_with ((go_at_call 37; (with_reducible refine (eqQuos_nil _ _ _ _ _).mono ?_); rintro e w1 ⟨rfl, hb_w1⟩; have hs_w1 := hb_w1.size; (try simp at hs_w1)))
  go_wp2_with ((go_at_call 36; (with_reducible refine (toRuns p c rs _ ?_ hl2).mono ?_); (focus ((exact H.out.below (by repeat (first | assumption | exact Below.refl _ _ | (refine below_chain ?_ (by assumption) (by first | omega | (simp <;> omega) | simp)) | (refine Below.alloc ?_ (by first | omega | (simp <;> omega) | simp) _) | (apply below_drewN) | (apply below_drew) | (refine Below.setCell ?_ (by first | omega | (simp <;> omega) | simp) _)))); done)); rintro e w2 ⟨rfl, oc, hb_w2⟩; have hs_w2 := hb_w2.size; (try simp at hs_w2)))
  have OC := Lib.hid oc
  clear oc
  go_wp2_with ((go_at_call 38; (with_reducible refine (eqRuns _ _ _ _ rs _ ?_ ?_ hl4).mono ?_); (focus ((exact (OB.out.below (by repeat (first | assumption | exact Below.refl _ _ | (refine below_chain ?_ (by assumption) (by first | omega | (simp <;> omega) | simp)) | (refine Below.alloc ?_ (by first | omega | (simp <;> omega) | simp) _) | (apply below_drewN) | (apply below_drew) | (refine Below.setCell ?_ (by first | omega | (simp <;> omega) | simp) _)))).runs); done)); (focus ((exact OC.out.runs); done)); rintro e w3 ⟨rfl, hb_w3⟩; have hs_w3 := hb_w3.size; (try simp at hs_w3)))
  have OB3 := Lib.hid (OB.out.below (w' := w3) (by repeat (first | assumption | exact Below.refl _ _ | (refine below_chain ?_ (by assumption) (by first | omega | (simp <;> omega) | simp)) | (refine Below.alloc ?_ (by first | omega | (simp <;> omega) | simp) _) | (apply below_drewN) | (apply below_drew) | (refine Below.setCell ?_ (by first | omega | (simp <;> omega) | simp) _))))
  have hB3 : Below w.heap.size w w3 := (by repeat (first | assumption | exact Below.refl _ _ | (refine below_chain ?_ (by assumption) (by first | omega | (simp <;> omega) | simp)) | (refine Below.alloc ?_ (by first | omega | (simp <;> omega) | simp) _) | (apply below_drewN) | (apply below_drew) | (refine Below.setCell ?_ (by first | omega | (simp <;> omega) | simp) _)))
  have g5 : w.heap.size ≤ ws.heap.size := by omega
  have g6 : w.heap.size ≤ w3.heap.size := by omega
  clear OC OA OB hb_wa hb_ws hb_wb hb_wi hb_w1 hb_w2 hb_w3
  go_wp2_with (go_at_call 39; (with_reducible refine (markRuns _ _ _ _ _ OB3.out hl2).mono ?_); rintro e w4 ⟨rfl, om, hg4⟩; have hs4 := Nat.le_of_eq hg4.2; have hs4' := Nat.le_of_eq hg4.2.symm; have HG4 := Lib.hid hg4; clear hg4 om)
  have hB4 : Below w.heap.size w w4 := below_grew hB3 HG4.out (by omega) (by omega)
  clear OB3 hB3
  go_wp2_with ((go_at_call 37; (with_reducible refine (eqQuos_nil _ _ _ _ _).mono ?_); rintro e w5 ⟨rfl, hb_w5⟩; have hs_w5 := hb_w5.size; (try simp at hs_w5)))
  go_wp2_with (first | (go_at_call 40; (with_reducible refine (markQuos_nil _ _ _).mono ?_); rintro e w' ⟨rfl, rfl⟩) | (go_at_call 41; (with_reducible refine (heldQuos_nil _ _ _).mono ?_); rintro e w' ⟨rfl, rfl⟩))
  go_wp2_with ((go_at_call 36; (with_reducible refine (toRuns p c rs _ ?_ hl2).mono ?_); (focus ((exact H.out.below (by repeat (first | assumption | exact Below.refl _ _ | (refine below_chain ?_ (by assumption) (by first | omega | (simp <;> omega) | simp)) | (refine Below.alloc ?_ (by first | omega | (simp <;> omega) | simp) _) | (apply below_drewN) | (apply below_drew) | (refine Below.setCell ?_ (by first | omega | (simp <;> omega) | simp) _)))); done)); rintro e w7 ⟨rfl, oc, hb_w7⟩; have hs_w7 := hb_w7.size; (try simp at hs_w7)))
  have OC := Lib.hid oc
  clear oc
  go_wp2_with ((go_at_call 12; (with_reducible refine ((kI _ _ _ ?_).out).mono ?_); (focus ((exact ⟨OC.out.runs, he.out.below (by repeat (first | assumption | exact Below.refl _ _ | (refine below_chain ?_ (by assumption) (by first | omega | (simp <;> omega) | simp)) | (refine Below.alloc ?_ (by first | omega | (simp <;> omega) | simp) _) | (apply below_drewN) | (apply below_drew) | (refine Below.setCell ?_ (by first | omega | (simp <;> omega) | simp) _)))⟩); done)); rintro e w8 ⟨⟨q8, d8, rfl⟩, hb_w8⟩; have hs_w8 := hb_w8.size; (try simp at hs_w8)))
  go_wp2_with (first | (go_at_call 37; (with_reducible refine (eqQuos_nil _ _ _ _ _).mono ?_); rintro e w9 ⟨rfl, hb_w9⟩; have hs_w9 := hb_w9.size; (try simp at hs_w9)) | (go_at_call 41; (with_reducible refine (heldQuos_nil _ _ _).mono ?_); rintro e w' ⟨rfl, rfl⟩))
  go_ret
  exact ⟨rfl, (by repeat (first | assumption | exact Below.refl _ _ | (refine below_chain ?_ (by assumption) (by first | omega | (simp <;> omega) | simp)) | (refine Below.alloc ?_ (by first | omega | (simp <;> omega) | simp) _) | (apply below_drewN) | (apply below_drew) | (refine Below.setCell ?_ (by first | omega | (simp <;> omega) | simp) _)))⟩
theorem walk (w : World) (n : Int) (wn : (Lit.int .i64 n).wf = true) (p : Option Addr) (c : Nat) (rs : List Rn) (h : Runs w p rs) (hl : rs.length ≤ 9223372036854775807) (he : Hid (ErrV w)) :
    Calls Tryd.prog 9 #[.int .i64 n, .slice p rs.length c] w fun e w' => e = .returned (.bool true) ∧ Below w.heap.size w w' := by
  by_cases hl2 : rs.length ≤ 1048576
  · cases hy : adjOk n rs
    · exact walk_no w n p c rs (Lib.hid h) he hl2 hy
    · obtain ⟨N, M, rfl, hNM⟩ := adj_nat hy
      exact walk_yes w N M p c rs (Lib.hid h) he hy hNM
  · have hl3 : (1048576 : Int) < (rs.length : Int) := by omega
    clear h wn
    go_enter Tryd.func9, Tryd.ntmps9
    go_wp2_with ((go_at_call 35; (with_reducible refine (szRuns _ _ _ _ hl).mono ?_); rintro e w' ⟨rfl, rfl⟩))
    go_ret
    exact ⟨rfl, (by repeat (first | assumption | exact Below.refl _ _ | (refine below_chain ?_ (by assumption) (by first | omega | (simp <;> omega) | simp)) | (refine Below.alloc ?_ (by first | omega | (simp <;> omega) | simp) _) | (apply below_drewN) | (apply below_drew) | (refine Below.setCell ?_ (by first | omega | (simp <;> omega) | simp) _)))⟩

set_option maxRecDepth 100000 in
theorem contract (H : Type) (enc : TypeId × Value → H) (W : World) (base : Nat) (args : Array Value) (ds gs : List (DataW H)) (before : List MemPlace)
    (hval : ∀ (j : Nat) t v, Tryd.f9.params[j]? = some t → args[j]? = some v → Value.okWide Tryd.prog W .any base t v)
    (hW : DataW.Whole enc Tryd.prog Tryd.f9.params.toList Rows.fnExactAdjustHeightsSpec.vars false W args.toList ds gs before) (hL : laidMetH Tryd.prog Rows.fnExactAdjustHeightsRow.laid W) :
    Calls Tryd.prog 9 args W fun e W' => ∃ v, e = .returned v ∧ Rows.fnExactAdjustHeightsSpec.post enc Tryd.prog Tryd.f9 false true false false W args v W' := by
  have hL' : laidMet Tryd.prog Rows.fnExactAdjustHeightsRow.laid W := (MakeChecks.laidMetH_plain Tryd.prog Rows.fnExactAdjustHeightsRow.laid W (by kernel_rfl)) ▸ hL
  obtain ⟨ae, hve⟩ := err_laid hL'
  have hW' := hW
  obtain ⟨p, q, hA0, hV0, rfl, hfz, hnd⟩ := hW
  have hA : DataW.TrodAll enc Tryd.prog W 0 (fun _ => true) true Tryd.f9.params.toList args.toList ds p := hA0
  have hV : DataW.TrodVars enc Tryd.prog W (fun _ => true) ["loop.example/levellingnet/impl.errNoQuotients"] gs q := hV0
  rw [Tryd.params9] at hA hval
  obtain ⟨v0, vs0, d0, ds0, p0, q0, hargs, rfl, rfl, h0, r0⟩ := trodAll_cons hA
  obtain ⟨v1, vs1, d1, ds1, p1, q1, rfl, rfl, rfl, h1, r1⟩ := trodAll_cons r0
  obtain ⟨rfl, rfl, rfl⟩ := trodAll_nil r1
  obtain rfl : args = #[v0, v1] := by cases args; simp_all
  obtain ⟨rfl, rfl⟩ := hV.unique (hve.reads enc _)
  obtain ⟨a0, rfl, rfl, rfl, w0⟩ := open_int Tryd.underlying3 (hval 0 3 v0 rfl rfl) h0
  obtain ⟨a1, len1, cap1, rfl⟩ := okWide_slice Tryd.underlying55 (hval 1 55 v1 rfl rfl)
  have k1 := h1
  have lt1 : ∀ x ∈ p1, x.block < W.heap.size := by obtain ⟨m, hm⟩ := k1; exact DataW.trod_lt m _ _ _ hm
  obtain ⟨x1, e1, r1', l1⟩ := open_runs h1
  subst e1
  clear hA0 hV0
  refine (walk W a0 w0 a1 cap1 x1 r1' l1 (Lib.hid hve.err)).mono fun e W' ⟨he, bel⟩ => ?_
  subst he
  exact ⟨_, rfl, _, _, _, [], _, [.cell 0 0], hW', trodAll_mk1 (shut_bool Tryd.underlying4 _), (trodAll_cons_mk (shut_int Tryd.underlying3 w0) (trodAll_cons_mk (Below.trod laidOut (by kernel_rfl) (of_decide_eq_true (by kernel_rfl)) k1 bel lt1) trodAll_mk0)), (hve.below bel).reads enc _, bel.frame _, fun h => by cases h⟩

theorem laid_met (os : Os) : laidMet Tryd.prog Rows.fnExactAdjustHeightsRow.laid ((World.doorLaid Tryd.prog 400 os).forCall (fun _ _ => 0) ⟨#[], #[.int .i64 0, .slice none 0 0], []⟩).memory :=
  laidMet_of_run' 8 (by kernel_rfl) (by kernel_rfl)

set_option maxRecDepth 100000 in
theorem lifted (os : Os) (started : os.Started) (H : Type) (enc : TypeId × Value → H) (F : Stop.Interp) :
    ReturnsInHanded {} Tryd.checked os 9 .any ((OpenSpec.ofChange Rows.fnExactAdjustHeightsSpec).preRow enc Tryd.prog Tryd.f9 Rows.fnExactAdjustHeightsRow.domain false Rows.fnExactAdjustHeightsRow.laid) (((OpenSpec.ofChange Rows.fnExactAdjustHeightsSpec).at F).post enc Tryd.prog Tryd.f9 false true false false) := by
  refine returnsInHanded_of_row (C := Tryd.checked) (s := OpenSpec.ofChange Rows.fnExactAdjustHeightsSpec) own started (by kernel_rfl) Tryd.func9
    (witness_row_at (enc := enc) (C := Tryd.checked) false (World.doorLaid Tryd.prog 400 os) #[.int .i64 0, .slice none 0 0] rfl (by kernel_rfl) (by kernel_rfl) (by kernel_rfl)
      (OpenSpec.preRow_of_B rfl 8 (by kernel_rfl) (by kernel_rfl) (laid_met os))) ?_
  intro W base args ds gs before hval hW _ _ _ hL _ _
  exact contract H enc W base args ds gs before hval hW hL

theorem said : Rows.FnExactAdjustHeightsSaid :=
  OpenClaim.holds_of_cond 9 Tryd.f9 rfl rfl rfl rfl rfl rfl rfl ⟨rfl, rfl, rfl, rfl, rfl⟩ rfl rfl rfl rfl rfl (by kernel_rfl) Tryd.func9 (by kernel_rfl)
    (of_decide_eq_true (by kernel_rfl)) (by unfold Func.isWrapper; first | (rw [if_pos (by decide +kernel)]; kernel_rfl) | (rw [if_neg (by decide +kernel)]; exact ⟨rfl, rfl⟩))
    (fun os started H enc _ F => by rw [OpenClaim.pre_eq_preRow]; exact lifted os started H enc F)

theorem plain (f : FuncId) (fn : Func) (hf : Tryd.pinned.checked.prog.funcNamed "loop.example/levellingnet/laws.FnExactAdjustHeights" = some f) (hfn : Tryd.pinned.checked.prog.funcs[f]? = some fn) :
    true = Tryd.pinned.checked.prog.looks [] ∧ ∀ (j : Nat) t, fn.params[j]? = some t → Tryd.pinned.checked.prog.wantsStandIn t = false := by
  obtain rfl : f = 9 := Option.some.inj ((show Tryd.prog.funcNamed "loop.example/levellingnet/laws.FnExactAdjustHeights" = some 9 by kernel_rfl).symm.trans hf) |>.symm
  obtain rfl : fn = Tryd.f9 := (Option.some.inj (Tryd.func9.symm.trans hfn)).symm
  refine ⟨by kernel_rfl, fun j t ht => ?_⟩
  rw [Tryd.params9] at ht
  have hm : t ∈ [3, 55] := by simpa using Array.mem_of_getElem? ht
  have hall : ([3, 55].all fun u => !Tryd.prog.wantsStandIn u) = true := by kernel_rfl
  exact (show Tryd.prog.wantsStandIn t = false by simpa using List.all_eq_true.1 hall t hm)

theorem card : Rows.FnExactAdjustHeightsCardSaid :=
  Claim7.holds_tied_plain_at .later [] _ _ _ _ said (fun _ h => by cases h) (by kernel_rfl) (fun _ h => by cases h) fnExactAdjustHeights_row_tie rfl ⟨rfl, rfl⟩ (by kernel_rfl) rfl plain (by kernel_rfl)
end Go.Proofs.YtoaomjchaihkaaaDoor.fnExactAdjustHeights

