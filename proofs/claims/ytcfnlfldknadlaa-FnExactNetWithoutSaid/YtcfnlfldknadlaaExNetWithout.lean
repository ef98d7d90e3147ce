/-
  For every number, every list of runs and every index the law FnExactNetWithout returns true: impl.NetWithout answers the net without a run as the reference model does, in every field, leaves the runs as they were, and its answer owns its memory. No condition: every int and every list are taken.
-/
import Derived.Test.YtcfnlfldknadlaaOpN
import Derived.Test.YtcfnlfldknadlaaZf
import Derived.Test.YtcfnlfldknadlaaZn
namespace Go.Proofs.Ytcfnlfldknadlaa.fnExactNetWithout
open Go.ChangeShapes Go.WideShapes Go.ChangeAt Go.RowKit
set_option linter.unusedVariables false

/-- a write to one block that is new -/
theorem below_grew {B g : Nat} {a w w' : World} (h : Below B a w) (hg : grew w w' g) (hB : B ≤ g) (hs : B ≤ w.heap.size) : Below B a w' := below_gr h hg.1 hB hs

set_option maxHeartbeats 8000000 in
theorem walk_yes (w : World) (n : Int) (p : Option Addr) (c : Nat) (rs : List Rn) (j : Nat) (r : Rn) (H : Hid (Runs w p rs)) (hl : rs.length ≤ 12) (h1 : nOk n rs = true) (hr : rs[j]? = some r) (hne : rs.eraseIdx j ≠ []) :
    Calls Try.prog 12 #[.int .i64 n, .slice p rs.length c, .int .i64 j] w fun e w' => e = .returned (.bool true) ∧ Below w.heap.size w w' := by
  have hl3 : ¬ (1048576 : Int) < (rs.length : Int) := by omega
  have hl2 : rs.length ≤ 1048576 := by omega
  have hl4 : rs.length ≤ 4000000000000000000 := by omega
  have hl9 : rs.length ≤ 9223372036854775807 := by omega
  have hj := (List.getElem?_eq_some_iff.1 hr).1
  obtain ⟨rt, ht⟩ : ∃ rt, rs.eraseIdx j = rt := ⟨_, rfl⟩
  have hrl : rt.length ≤ rs.length := by rw [← ht]; exact List.length_eraseIdx_le rs j
  have kS := fun w p h => Lib.hid (sWithoutR_yes n p rs.length _ rs j w h h1 rfl hj (Nat.le_refl _))
  have kI := fun w p h => Lib.hid ((iWithout_yes n p rs.length _ rs j w h h1 rfl hj (Nat.le_refl _)).mono (fun e w' ⟨v, he, hv⟩ => (⟨v, he, hv.ne hne⟩ : ∃ v, e = Ending.returned (.tuple #[v, .bool true]) ∧ NewRuns w (rs.eraseIdx j) v w')))
  rw [ht] at kS kI
  have hn1 : ¬ (1 : Int) + (rs.length : Int) * 4 < 0 := by omega
  have hrt : rt.length ≤ 12 := by omega
  have hn2 : ¬ (1 : Int) + (rt.length : Int) * 4 < 0 := by omega
  clear h1 hr ht hj hrl hne
  go_enter Try.func12, Try.ntmps12
  go_wp2_with ((go_at_call 42; (with_reducible refine (szRuns _ _ _ _ hl9).mono ?_); rintro e w' ⟨rfl, rfl⟩))
  go_wp2_with ((go_at_call 43; (with_reducible refine (toRuns p c rs _ ?_ hl2).mono ?_); (focus ((exact H.out.below (by repeat (first | assumption | exact Below.refl _ _ | (refine below_chain ?_ (by assumption) (by first | omega | (simp <;> omega) | simp)) | (refine Below.alloc ?_ (by first | omega | (simp <;> omega) | simp) _) | (apply below_drewN) | (apply below_drew) | (refine Below.setCell ?_ (by first | omega | (simp <;> omega) | simp) _)))); done)); rintro e wa ⟨rfl, oa, hb_wa⟩; have hs_wa := hb_wa.size; (try simp at hs_wa)))
  have OA := Lib.hid oa
  clear oa
  go_wp2_with ((go_at_call 40; (with_reducible refine ((kS _ _ ?_).out).mono ?_); (focus ((exact OA.out.runs); done)); rintro e ws ⟨v, rfl, gs, cs, rfl, hgs, os, hb_ws⟩; have hs_ws := hb_ws.size; (try simp at hs_ws)))
  have OS := Lib.hid os
  have hls := os.lt
  clear os
  go_wp2_with ((go_at_call 43; (with_reducible refine (toRuns p c rs _ ?_ hl2).mono ?_); (focus ((exact H.out.below (by repeat (first | assumption | exact Below.refl _ _ | (refine below_chain ?_ (by assumption) (by first | omega | (simp <;> omega) | simp)) | (refine Below.alloc ?_ (by first | omega | (simp <;> omega) | simp) _) | (apply below_drewN) | (apply below_drew) | (refine Below.setCell ?_ (by first | omega | (simp <;> omega) | simp) _)))); done)); rintro e wb ⟨rfl, ob, hb_wb⟩; have hs_wb := hb_wb.size; (try simp at hs_wb)))
  have OB := Lib.hid ob
  have hlb := ob.lt
  clear ob
  go_wp2_with ((go_at_call 29; (with_reducible refine ((kI _ _ ?_).out).mono ?_); (focus ((exact OB.out.runs); done)); rintro e wi ⟨v, rfl, gi, ci, rfl, hgi, oi, hb_wi⟩; have hs_wi := hb_wi.size; (try simp at hs_wi)))
  have OI := Lib.hid oi
  have hli := oi.lt
  clear oi
  go_wp2_with ((go_at_call 45; (with_reducible refine (eqRuns _ _ _ _ rt _ ?_ ?_ (by omega)).mono ?_); (focus ((exact OI.out.runs); done)); (focus ((exact (OS.out.below (by repeat (first | assumption | exact Below.refl _ _ | (refine below_chain ?_ (by assumption) (by first | omega | (simp <;> omega) | simp)) | (refine Below.alloc ?_ (by first | omega | (simp <;> omega) | simp) _) | (apply below_drewN) | (apply below_drew) | (refine Below.setCell ?_ (by first | omega | (simp <;> omega) | simp) _)))).runs); done)); rintro e w1 ⟨rfl, hb_w1⟩; have hs_w1 := hb_w1.size; (try simp at hs_w1)))
  go_wp2_with ((go_at_call 43; (with_reducible refine (toRuns p c rs _ ?_ hl2).mono ?_); (focus ((exact H.out.below (by repeat (first | assumption | exact Below.refl _ _ | (refine below_chain ?_ (by assumption) (by first | omega | (simp <;> omega) | simp)) | (refine Below.alloc ?_ (by first | omega | (simp <;> omega) | simp) _) | (apply below_drewN) | (apply below_drew) | (refine Below.setCell ?_ (by first | omega | (simp <;> omega) | simp) _)))); done)); rintro e w2 ⟨rfl, oc, hb_w2⟩; have hs_w2 := hb_w2.size; (try simp at hs_w2)))
  have OC := Lib.hid oc
  clear oc
  go_wp2_with ((go_at_call 45; (with_reducible refine (eqRuns _ _ _ _ rs _ ?_ ?_ hl4).mono ?_); (focus ((exact (OB.out.below (by repeat (first | assumption | exact Below.refl _ _ | (refine below_chain ?_ (by assumption) (by first | omega | (simp <;> omega) | simp)) | (refine Below.alloc ?_ (by first | omega | (simp <;> omega) | simp) _) | (apply below_drewN) | (apply below_drew) | (refine Below.setCell ?_ (by first | omega | (simp <;> omega) | simp) _)))).runs); done)); (focus ((exact OC.out.runs); done)); rintro e w3 ⟨rfl, hb_w3⟩; have hs_w3 := hb_w3.size; (try simp at hs_w3)))
  have OB3 := Lib.hid (OB.out.below (w' := w3) (by repeat (first | assumption | exact Below.refl _ _ | (refine below_chain ?_ (by assumption) (by first | omega | (simp <;> omega) | simp)) | (refine Below.alloc ?_ (by first | omega | (simp <;> omega) | simp) _) | (apply below_drewN) | (apply below_drew) | (refine Below.setCell ?_ (by first | omega | (simp <;> omega) | simp) _))))
  have OI3 := Lib.hid (OI.out.below (w' := w3) (by repeat (first | assumption | exact Below.refl _ _ | (refine below_chain ?_ (by assumption) (by first | omega | (simp <;> omega) | simp)) | (refine Below.alloc ?_ (by first | omega | (simp <;> omega) | simp) _) | (apply below_drewN) | (apply below_drew) | (refine Below.setCell ?_ (by first | omega | (simp <;> omega) | simp) _))))
  have OS3 := Lib.hid (OS.out.below (w' := w3) (by repeat (first | assumption | exact Below.refl _ _ | (refine below_chain ?_ (by assumption) (by first | omega | (simp <;> omega) | simp)) | (refine Below.alloc ?_ (by first | omega | (simp <;> omega) | simp) _) | (apply below_drewN) | (apply below_drew) | (refine Below.setCell ?_ (by first | omega | (simp <;> omega) | simp) _))))
  have hB3 : Below w.heap.size w w3 := (by repeat (first | assumption | exact Below.refl _ _ | (refine below_chain ?_ (by assumption) (by first | omega | (simp <;> omega) | simp)) | (refine Below.alloc ?_ (by first | omega | (simp <;> omega) | simp) _) | (apply below_drewN) | (apply below_drew) | (refine Below.setCell ?_ (by first | omega | (simp <;> omega) | simp) _)))
  have g1 : w.heap.size ≤ gs := by omega
  have g2 : gs < ws.heap.size := hls
  have g3 : ws.heap.size < gi := by omega
  have g4 : gi < w3.heap.size := by omega
  have g5 : w.heap.size ≤ ws.heap.size := by omega
  have g6 : w.heap.size ≤ w3.heap.size := by omega
  clear OC OA OB OI OS hb_wa hb_ws hb_wb hb_wi hb_w1 hb_w2 hb_w3
  go_wp2_with (go_at_call 46; (with_reducible refine (markRuns _ _ _ _ _ OB3.out hl2).mono ?_); rintro e w4 ⟨rfl, om, hg4⟩; have hs4 := Nat.le_of_eq hg4.2; have hs4' := Nat.le_of_eq hg4.2.symm; have HG4 := Lib.hid hg4; clear hg4 om)
  have hB4 : Below w.heap.size w w4 := below_grew hB3 HG4.out (by omega) (by omega)
  have OI4 := Lib.hid (OI3.out.grown HG4.out.1 (by omega))
  have OS4 := Lib.hid (OS3.out.grown HG4.out.1 (by omega))
  clear OB3 OI3 OS3 hB3
  go_wp2_with ((go_at_call 45; (with_reducible refine (eqRuns _ _ _ _ rt _ ?_ ?_ (by omega)).mono ?_); (focus ((exact OI4.out.runs); done)); (focus ((exact OS4.out.runs); done)); rintro e w5 ⟨rfl, hb_w5⟩; have hs_w5 := hb_w5.size; (try simp at hs_w5)))
  have OI5 := Lib.hid (OI4.out.below (w' := w5) (by repeat (first | assumption | exact Below.refl _ _ | (refine below_chain ?_ (by assumption) (by first | omega | (simp <;> omega) | simp)) | (refine Below.alloc ?_ (by first | omega | (simp <;> omega) | simp) _) | (apply below_drewN) | (apply below_drew) | (refine Below.setCell ?_ (by first | omega | (simp <;> omega) | simp) _))))
  have OS5 := Lib.hid (OS4.out.below (w' := w5) (by repeat (first | assumption | exact Below.refl _ _ | (refine below_chain ?_ (by assumption) (by first | omega | (simp <;> omega) | simp)) | (refine Below.alloc ?_ (by first | omega | (simp <;> omega) | simp) _) | (apply below_drewN) | (apply below_drew) | (refine Below.setCell ?_ (by first | omega | (simp <;> omega) | simp) _))))
  have hB5 : Below w.heap.size w w5 := (by repeat (first | assumption | exact Below.refl _ _ | (refine below_chain ?_ (by assumption) (by first | omega | (simp <;> omega) | simp)) | (refine Below.alloc ?_ (by first | omega | (simp <;> omega) | simp) _) | (apply below_drewN) | (apply below_drew) | (refine Below.setCell ?_ (by first | omega | (simp <;> omega) | simp) _)))
  clear OI4 OS4 hB4 hb_w5
  go_wp2_with (go_at_call 46; (with_reducible refine (markRuns _ _ _ _ _ OI5.out (by omega)).mono ?_); rintro e w6 ⟨rfl, om, hg6⟩; have hs6 := Nat.le_of_eq hg6.2; have hs6' := Nat.le_of_eq hg6.2.symm; have HG6 := Lib.hid (And.intro hg6 om); clear hg6 om)
  have hB6 : Below w.heap.size w w6 := below_grew hB5 HG6.out.1 (by omega) (by omega)
  have OS6 := Lib.hid (OS5.out.grown HG6.out.1.1 (by omega))
  have OI6 := Lib.hid HG6.out.2
  clear OI5 OS5 hB5 HG6
  go_wp2_with (go_at_call 52; (with_reducible refine (heldRuns _ _ _ _ _ OI6.out (by rw [flat_len]) (by omega)).mono ?_); rintro e w' ⟨rfl, rfl⟩)
  go_wp2_with ((go_at_call 43; (with_reducible refine (toRuns p c rs _ ?_ hl2).mono ?_); (focus ((exact H.out.below (by repeat (first | assumption | exact Below.refl _ _ | (refine below_chain ?_ (by assumption) (by first | omega | (simp <;> omega) | simp)) | (refine Below.alloc ?_ (by first | omega | (simp <;> omega) | simp) _) | (apply below_drewN) | (apply below_drew) | (refine Below.setCell ?_ (by first | omega | (simp <;> omega) | simp) _)))); done)); rintro e w7 ⟨rfl, oc, hb_w7⟩; have hs_w7 := hb_w7.size; (try simp at hs_w7)))
  have OC := Lib.hid oc
  clear oc
  go_wp2_with ((go_at_call 29; (with_reducible refine ((kI _ _ ?_).out).mono ?_); (focus ((exact OC.out.runs); done)); rintro e w8 ⟨v, rfl, gj, cj, rfl, hgj, oj, hb_w8⟩; have hs_w8 := hb_w8.size; (try simp at hs_w8)))
  have OJ := Lib.hid oj
  clear oj
  go_wp2_with ((go_at_call 45; (with_reducible refine (eqRuns _ _ _ _ rt _ ?_ ?_ (by omega)).mono ?_); (focus ((exact OJ.out.runs); done)); (focus ((exact (OS6.out.below (by repeat (first | assumption | exact Below.refl _ _ | (refine below_chain ?_ (by assumption) (by first | omega | (simp <;> omega) | simp)) | (refine Below.alloc ?_ (by first | omega | (simp <;> omega) | simp) _) | (apply below_drewN) | (apply below_drew) | (refine Below.setCell ?_ (by first | omega | (simp <;> omega) | simp) _)))).runs); done)); rintro e w9 ⟨rfl, hb_w9⟩; have hs_w9 := hb_w9.size; (try simp at hs_w9)))
  have OI9 := Lib.hid (OI6.out.below (w' := w9) (by repeat (first | assumption | exact Below.refl _ _ | (refine below_chain ?_ (by assumption) (by first | omega | (simp <;> omega) | simp)) | (refine Below.alloc ?_ (by first | omega | (simp <;> omega) | simp) _) | (apply below_drewN) | (apply below_drew) | (refine Below.setCell ?_ (by first | omega | (simp <;> omega) | simp) _))))
  go_wp2_with (go_at_call 52; (with_reducible refine (heldRuns _ _ _ _ _ OI9.out (by rw [flat_len]) (by omega)).mono ?_); rintro e w' ⟨rfl, rfl⟩)
  go_ret
  exact ⟨rfl, (by repeat (first | assumption | exact Below.refl _ _ | (refine below_chain ?_ (by assumption) (by first | omega | (simp <;> omega) | simp)) | (refine Below.alloc ?_ (by first | omega | (simp <;> omega) | simp) _) | (apply below_drewN) | (apply below_drew) | (refine Below.setCell ?_ (by first | omega | (simp <;> omega) | simp) _)))⟩

theorem eqRuns_nil (p q : Option Addr) (c d : Nat) (w : World) :
    Calls Try.prog 45 #[.slice p 0 c, .slice q 0 d] w fun e w' => e = .returned (.bool true) ∧ Below w.heap.size w w' := eqRuns p q c d [] w (.inl rfl) (.inl rfl) (by simp)
set_option maxHeartbeats 8000000 in
theorem walk_no (w : World) (n k : Int) (p : Option Addr) (c : Nat) (rs : List Rn) (H : Hid (Runs w p rs)) (hl2 : rs.length ≤ 1048576) (hno : ¬ (nOk n rs = true ∧ 0 ≤ k ∧ k < rs.length)) :
    Calls Try.prog 12 #[.int .i64 n, .slice p rs.length c, .int .i64 k] w fun e w' => e = .returned (.bool true) ∧ Below w.heap.size w w' := by
  have hl3 : ¬ (1048576 : Int) < (rs.length : Int) := by omega
  have hl4 : rs.length ≤ 4000000000000000000 := by omega
  have hl9 : rs.length ≤ 9223372036854775807 := by omega
  have kS := fun w p c h => Lib.hid (sWithoutR_no n k p c _ rs w h rfl hl4 hno)
  have kI := fun w p c h => Lib.hid (iWithout_no n k p c _ rs w h rfl hl4 hno)
  have hn1 : ¬ (1 : Int) + (rs.length : Int) * 4 < 0 := by omega
  clear hno
  go_enter Try.func12, Try.ntmps12
  go_wp2_with ((go_at_call 42; (with_reducible refine (szRuns _ _ _ _ hl9).mono ?_); rintro e w' ⟨rfl, rfl⟩))
  go_wp2_with ((go_at_call 43; (with_reducible refine (toRuns p c rs _ ?_ hl2).mono ?_); (focus ((exact H.out.below (by repeat (first | assumption | exact Below.refl _ _ | (refine below_chain ?_ (by assumption) (by first | omega | (simp <;> omega) | simp)) | (refine Below.alloc ?_ (by first | omega | (simp <;> omega) | simp) _) | (apply below_drewN) | (apply below_drew) | (refine Below.setCell ?_ (by first | omega | (simp <;> omega) | simp) _)))); done)); rintro e wa ⟨rfl, oa, hb_wa⟩; have hs_wa := hb_wa.size; (try simp at hs_wa)))
  have OA := Lib.hid oa
  clear oa
  go_wp2_with ((go_at_call 40; (with_reducible refine ((kS _ _ _ ?_).out).mono ?_); (focus ((exact OA.out.runs); done)); rintro e ws ⟨⟨v, rfl⟩, hb_ws⟩; have hs_ws := hb_ws.size; (try simp at hs_ws)))
  go_wp2_with ((go_at_call 43; (with_reducible refine (toRuns p c rs _ ?_ hl2).mono ?_); (focus ((exact H.out.below (by repeat (first | assumption | exact Below.refl _ _ | (refine below_chain ?_ (by assumption) (by first | omega | (simp <;> omega) | simp)) | (refine Below.alloc ?_ (by first | omega | (simp <;> omega) | simp) _) | (apply below_drewN) | (apply below_drew) | (refine Below.setCell ?_ (by first | omega | (simp <;> omega) | simp) _)))); done)); rintro e wb ⟨rfl, ob, hb_wb⟩; have hs_wb := hb_wb.size; (try simp at hs_wb)))
  have OB := Lib.hid ob
  have hlb := ob.lt
  clear ob
  go_wp2_with ((go_at_call 29; (with_reducible refine ((kI _ _ _ ?_).out).mono ?_); (focus ((exact OB.out.runs); done)); rintro e wi ⟨⟨qi, di, rfl⟩, hb_wi⟩; have hs_wi := hb_wi.size; (try simp at hs_wi)))
  go_wp2_with ((go_at_call 45; (with_reducible refine (eqRuns_nil _ _ _ _ _).mono ?_); rintro e w1 ⟨rfl, hb_w1⟩; have hs_w1 := hb_w1.size; (try simp at hs_w1)))
  go_wp2_with ((go_at_call 43; (with_reducible refine (toRuns p c rs _ ?_ hl2).mono ?_); (focus ((exact H.out.below (by repeat (first | assumption | exact Below.refl _ _ | (refine below_chain ?_ (by assumption) (by first | omega | (simp <;> omega) | simp)) | (refine Below.alloc ?_ (by first | omega | (simp <;> omega) | simp) _) | (apply below_drewN) | (apply below_drew) | (refine Below.setCell ?_ (by first | omega | (simp <;> omega) | simp) _)))); done)); rintro e w2 ⟨rfl, oc, hb_w2⟩; have hs_w2 := hb_w2.size; (try simp at hs_w2)))
  have OC := Lib.hid oc
  clear oc
  go_wp2_with ((go_at_call 45; (with_reducible refine (eqRuns _ _ _ _ rs _ ?_ ?_ hl4).mono ?_); (focus ((exact (OB.out.below (by repeat (first | assumption | exact Below.refl _ _ | (refine below_chain ?_ (by assumption) (by first | omega | (simp <;> omega) | simp)) | (refine Below.alloc ?_ (by first | omega | (simp <;> omega) | simp) _) | (apply below_drewN) | (apply below_drew) | (refine Below.setCell ?_ (by first | omega | (simp <;> omega) | simp) _)))).runs); done)); (focus ((exact OC.out.runs); done)); rintro e w3 ⟨rfl, hb_w3⟩; have hs_w3 := hb_w3.size; (try simp at hs_w3)))
  have OB3 := Lib.hid (OB.out.below (w' := w3) (by repeat (first | assumption | exact Below.refl _ _ | (refine below_chain ?_ (by assumption) (by first | omega | (simp <;> omega) | simp)) | (refine Below.alloc ?_ (by first | omega | (simp <;> omega) | simp) _) | (apply below_drewN) | (apply below_drew) | (refine Below.setCell ?_ (by first | omega | (simp <;> omega) | simp) _))))
  have hB3 : Below w.heap.size w w3 := (by repeat (first | assumption | exact Below.refl _ _ | (refine below_chain ?_ (by assumption) (by first | omega | (simp <;> omega) | simp)) | (refine Below.alloc ?_ (by first | omega | (simp <;> omega) | simp) _) | (apply below_drewN) | (apply below_drew) | (refine Below.setCell ?_ (by first | omega | (simp <;> omega) | simp) _)))
  have g5 : w.heap.size ≤ ws.heap.size := by omega
  have g6 : w.heap.size ≤ w3.heap.size := by omega
  clear OC OA OB hb_wa hb_ws hb_wb hb_wi hb_w1 hb_w2 hb_w3
  go_wp2_with (go_at_call 46; (with_reducible refine (markRuns _ _ _ _ _ OB3.out hl2).mono ?_); rintro e w4 ⟨rfl, om, hg4⟩; have hs4 := Nat.le_of_eq hg4.2; have hs4' := Nat.le_of_eq hg4.2.symm; have HG4 := Lib.hid hg4; clear hg4 om)
  have hB4 : Below w.heap.size w w4 := below_grew hB3 HG4.out (by omega) (by omega)
  clear OB3 hB3
  go_wp2_with ((go_at_call 45; (with_reducible refine (eqRuns_nil _ _ _ _ _).mono ?_); rintro e w5 ⟨rfl, hb_w5⟩; have hs_w5 := hb_w5.size; (try simp at hs_w5)))
  go_wp2_with (first | (go_at_call 46; (with_reducible refine (markRuns_nil _ _ _).mono ?_); rintro e w' ⟨rfl, rfl⟩) | (go_at_call 52; (with_reducible refine (heldRuns_nil _ _ _).mono ?_); rintro e w' ⟨rfl, rfl⟩))
  go_wp2_with ((go_at_call 43; (with_reducible refine (toRuns p c rs _ ?_ hl2).mono ?_); (focus ((exact H.out.below (by repeat (first | assumption | exact Below.refl _ _ | (refine below_chain ?_ (by assumption) (by first | omega | (simp <;> omega) | simp)) | (refine Below.alloc ?_ (by first | omega | (simp <;> omega) | simp) _) | (apply below_drewN) | (apply below_drew) | (refine Below.setCell ?_ (by first | omega | (simp <;> omega) | simp) _)))); done)); rintro e w7 ⟨rfl, oc, hb_w7⟩; have hs_w7 := hb_w7.size; (try simp at hs_w7)))
  have OC := Lib.hid oc
  clear oc
  go_wp2_with ((go_at_call 29; (with_reducible refine ((kI _ _ _ ?_).out).mono ?_); (focus ((exact OC.out.runs); done)); rintro e w8 ⟨⟨q8, d8, rfl⟩, hb_w8⟩; have hs_w8 := hb_w8.size; (try simp at hs_w8)))
  go_wp2_with (first | (go_at_call 45; (with_reducible refine (eqRuns_nil _ _ _ _ _).mono ?_); rintro e w9 ⟨rfl, hb_w9⟩; have hs_w9 := hb_w9.size; (try simp at hs_w9)) | (go_at_call 52; (with_reducible refine (heldRuns_nil _ _ _).mono ?_); rintro e w' ⟨rfl, rfl⟩))
  go_ret
  exact ⟨rfl, (by repeat (first | assumption | exact Below.refl _ _ | (refine below_chain ?_ (by assumption) (by first | omega | (simp <;> omega) | simp)) | (refine Below.alloc ?_ (by first | omega | (simp <;> omega) | simp) _) | (apply below_drewN) | (apply below_drew) | (refine Below.setCell ?_ (by first | omega | (simp <;> omega) | simp) _)))⟩
set_option maxHeartbeats 8000000 in
theorem walk_nil (w : World) (n : Int) (p : Option Addr) (c : Nat) (rs : List Rn) (k : Nat) (H : Hid (Runs w p rs)) (hl2 : rs.length ≤ 1048576) (h1 : nOk n rs = true) (hk : k < rs.length) (he : rs.eraseIdx k = []) :
    Calls Try.prog 12 #[.int .i64 n, .slice p rs.length c, .int .i64 k] w fun e w' => e = .returned (.bool true) ∧ Below w.heap.size w w' := by
  have hl3 : ¬ (1048576 : Int) < (rs.length : Int) := by omega
  have hl4 : rs.length ≤ 4000000000000000000 := by omega
  have hl9 : rs.length ≤ 9223372036854775807 := by omega
  have kS := fun w p h => Lib.hid ((sWithoutR_yes n p rs.length _ rs k w h h1 rfl hk (Nat.le_refl _)).mono (fun e w' ⟨v, he', g, cap, hv, _, _, hb⟩ => (⟨some ⟨g, 0, none⟩, cap, by rw [he', hv, he]; rfl, hb⟩ : ∃ q d, e = Ending.returned (.tuple #[.slice q 0 d, .bool true]) ∧ Below w.heap.size w w')))
  have kI := fun w p h => Lib.hid ((iWithout_yes n p rs.length _ rs k w h h1 rfl hk (Nat.le_refl _)).mono (fun e w' ⟨v, he', hv⟩ => (⟨none, 0, by rw [he', (hv.nil he).1], (hv.nil he).2⟩ : ∃ q d, e = Ending.returned (.tuple #[.slice q 0 d, .bool true]) ∧ Below w.heap.size w w')))
  have hn1 : ¬ (1 : Int) + (rs.length : Int) * 4 < 0 := by omega
  clear h1 he hk
  go_enter Try.func12, Try.ntmps12
  go_wp2_with ((go_at_call 42; (with_reducible refine (szRuns _ _ _ _ hl9).mono ?_); rintro e w' ⟨rfl, rfl⟩))
  go_wp2_with ((go_at_call 43; (with_reducible refine (toRuns p c rs _ ?_ hl2).mono ?_); (focus ((exact H.out.below (by repeat (first | assumption | exact Below.refl _ _ | (refine below_chain ?_ (by assumption) (by first | omega | (simp <;> omega) | simp)) | (refine Below.alloc ?_ (by first | omega | (simp <;> omega) | simp) _) | (apply below_drewN) | (apply below_drew) | (refine Below.setCell ?_ (by first | omega | (simp <;> omega) | simp) _)))); done)); rintro e wa ⟨rfl, oa, hb_wa⟩; have hs_wa := hb_wa.size; (try simp at hs_wa)))
  have OA := Lib.hid oa
  clear oa
  go_wp2_with ((go_at_call 40; (with_reducible refine ((kS _ _ ?_).out).mono ?_); (focus ((exact OA.out.runs); done)); rintro e ws ⟨qs, ds, rfl, hb_ws⟩; have hs_ws := hb_ws.size; (try simp at hs_ws)))
  go_wp2_with ((go_at_call 43; (with_reducible refine (toRuns p c rs _ ?_ hl2).mono ?_); (focus ((exact H.out.below (by repeat (first | assumption | exact Below.refl _ _ | (refine below_chain ?_ (by assumption) (by first | omega | (simp <;> omega) | simp)) | (refine Below.alloc ?_ (by first | omega | (simp <;> omega) | simp) _) | (apply below_drewN) | (apply below_drew) | (refine Below.setCell ?_ (by first | omega | (simp <;> omega) | simp) _)))); done)); rintro e wb ⟨rfl, ob, hb_wb⟩; have hs_wb := hb_wb.size; (try simp at hs_wb)))
  have OB := Lib.hid ob
  have hlb := ob.lt
  clear ob
  go_wp2_with ((go_at_call 29; (with_reducible refine ((kI _ _ ?_).out).mono ?_); (focus ((exact OB.out.runs); done)); rintro e wi ⟨qi, di, rfl, hb_wi⟩; have hs_wi := hb_wi.size; (try simp at hs_wi)))
  go_wp2_with ((go_at_call 45; (with_reducible refine (eqRuns_nil _ _ _ _ _).mono ?_); rintro e w1 ⟨rfl, hb_w1⟩; have hs_w1 := hb_w1.size; (try simp at hs_w1)))
  go_wp2_with ((go_at_call 43; (with_reducible refine (toRuns p c rs _ ?_ hl2).mono ?_); (focus ((exact H.out.below (by repeat (first | assumption | exact Below.refl _ _ | (refine below_chain ?_ (by assumption) (by first | omega | (simp <;> omega) | simp)) | (refine Below.alloc ?_ (by first | omega | (simp <;> omega) | simp) _) | (apply below_drewN) | (apply below_drew) | (refine Below.setCell ?_ (by first | omega | (simp <;> omega) | simp) _)))); done)); rintro e w2 ⟨rfl, oc, hb_w2⟩; have hs_w2 := hb_w2.size; (try simp at hs_w2)))
  have OC := Lib.hid oc
  clear oc
  go_wp2_with ((go_at_call 45; (with_reducible refine (eqRuns _ _ _ _ rs _ ?_ ?_ hl4).mono ?_); (focus ((exact (OB.out.below (by repeat (first | assumption | exact Below.refl _ _ | (refine below_chain ?_ (by assumption) (by first | omega | (simp <;> omega) | simp)) | (refine Below.alloc ?_ (by first | omega | (simp <;> omega) | simp) _) | (apply below_drewN) | (apply below_drew) | (refine Below.setCell ?_ (by first | omega | (simp <;> omega) | simp) _)))).runs); done)); (focus ((exact OC.out.runs); done)); rintro e w3 ⟨rfl, hb_w3⟩; have hs_w3 := hb_w3.size; (try simp at hs_w3)))
  have OB3 := Lib.hid (OB.out.below (w' := w3) (by repeat (first | assumption | exact Below.refl _ _ | (refine below_chain ?_ (by assumption) (by first | omega | (simp <;> omega) | simp)) | (refine Below.alloc ?_ (by first | omega | (simp <;> omega) | simp) _) | (apply below_drewN) | (apply below_drew) | (refine Below.setCell ?_ (by first | omega | (simp <;> omega) | simp) _))))
  have hB3 : Below w.heap.size w w3 := (by repeat (first | assumption | exact Below.refl _ _ | (refine below_chain ?_ (by assumption) (by first | omega | (simp <;> omega) | simp)) | (refine Below.alloc ?_ (by first | omega | (simp <;> omega) | simp) _) | (apply below_drewN) | (apply below_drew) | (refine Below.setCell ?_ (by first | omega | (simp <;> omega) | simp) _)))
  have g5 : w.heap.size ≤ ws.heap.size := by omega
  have g6 : w.heap.size ≤ w3.heap.size := by omega
  clear OC OA OB hb_wa hb_ws hb_wb hb_wi hb_w1 hb_w2 hb_w3
  go_wp2_with (go_at_call 46; (with_reducible refine (markRuns _ _ _ _ _ OB3.out hl2).mono ?_); rintro e w4 ⟨rfl, om, hg4⟩; have hs4 := Nat.le_of_eq hg4.2; have hs4' := Nat.le_of_eq hg4.2.symm; have HG4 := Lib.hid hg4; clear hg4 om)
  have hB4 : Below w.heap.size w w4 := below_grew hB3 HG4.out (by omega) (by omega)
  clear OB3 hB3
  go_wp2_with ((go_at_call 45; (with_reducible refine (eqRuns_nil _ _ _ _ _).mono ?_); rintro e w5 ⟨rfl, hb_w5⟩; have hs_w5 := hb_w5.size; (try simp at hs_w5)))
  go_wp2_with (first | (go_at_call 46; (with_reducible refine (markRuns_nil _ _ _).mono ?_); rintro e w' ⟨rfl, rfl⟩) | (go_at_call 52; (with_reducible refine (heldRuns_nil _ _ _).mono ?_); rintro e w' ⟨rfl, rfl⟩))
  go_wp2_with ((go_at_call 43; (with_reducible refine (toRuns p c rs _ ?_ hl2).mono ?_); (focus ((exact H.out.below (by repeat (first | assumption | exact Below.refl _ _ | (refine below_chain ?_ (by assumption) (by first | omega | (simp <;> omega) | simp)) | (refine Below.alloc ?_ (by first | omega | (simp <;> omega) | simp) _) | (apply below_drewN) | (apply below_drew) | (refine Below.setCell ?_ (by first | omega | (simp <;> omega) | simp) _)))); done)); rintro e w7 ⟨rfl, oc, hb_w7⟩; have hs_w7 := hb_w7.size; (try simp at hs_w7)))
  have OC := Lib.hid oc
  clear oc
  go_wp2_with ((go_at_call 29; (with_reducible refine ((kI _ _ ?_).out).mono ?_); (focus ((exact OC.out.runs); done)); rintro e w8 ⟨q8, d8, rfl, hb_w8⟩; have hs_w8 := hb_w8.size; (try simp at hs_w8)))
  go_wp2_with (first | (go_at_call 45; (with_reducible refine (eqRuns_nil _ _ _ _ _).mono ?_); rintro e w9 ⟨rfl, hb_w9⟩; have hs_w9 := hb_w9.size; (try simp at hs_w9)) | (go_at_call 52; (with_reducible refine (heldRuns_nil _ _ _).mono ?_); rintro e w' ⟨rfl, rfl⟩))
  go_ret
  exact ⟨rfl, (by repeat (first | assumption | exact Below.refl _ _ | (refine below_chain ?_ (by assumption) (by first | omega | (simp <;> omega) | simp)) | (refine Below.alloc ?_ (by first | omega | (simp <;> omega) | simp) _) | (apply below_drewN) | (apply below_drew) | (refine Below.setCell ?_ (by first | omega | (simp <;> omega) | simp) _)))⟩
theorem walk (w : World) (n : Int) (wn : (Lit.int .i64 n).wf = true) (p : Option Addr) (c : Nat) (rs : List Rn) (h : Runs w p rs) (hl : rs.length ≤ 9223372036854775807) (k : Int) (wk : (Lit.int .i64 k).wf = true) :
    Calls Try.prog 12 #[.int .i64 n, .slice p rs.length c, .int .i64 k] w fun e w' => e = .returned (.bool true) ∧ Below w.heap.size w w' := by
  by_cases hl2 : rs.length ≤ 1048576
  · by_cases hy : nOk n rs = true ∧ 0 ≤ k ∧ k < rs.length
    · obtain ⟨j, r, rfl, hj, hr⟩ := hasRun_nat hy.2
      by_cases he : rs.eraseIdx j = []
      · exact walk_nil w n p c rs j (Lib.hid h) hl2 hy.1 hj he
      · exact walk_yes w n p c rs j r (Lib.hid h) (nOk_true hy.1).2.2.1 hy.1 hr he
    · exact walk_no w n k p c rs (Lib.hid h) hl2 hy
  · have hl3 : (1048576 : Int) < (rs.length : Int) := by omega
    clear h wn wk
    go_enter Try.func12, Try.ntmps12
    go_wp2_with ((go_at_call 42; (with_reducible refine (szRuns _ _ _ _ hl).mono ?_); rintro e w' ⟨rfl, rfl⟩))
    go_ret
    exact ⟨rfl, (by repeat (first | assumption | exact Below.refl _ _ | (refine below_chain ?_ (by assumption) (by first | omega | (simp <;> omega) | simp)) | (refine Below.alloc ?_ (by first | omega | (simp <;> omega) | simp) _) | (apply below_drewN) | (apply below_drew) | (refine Below.setCell ?_ (by first | omega | (simp <;> omega) | simp) _)))⟩

set_option maxRecDepth 100000 in
theorem lifted (os : Os) (started : os.Started) (H : Type) (enc : TypeId × Value → H) :
    ReturnsInHanded {} Try.checked os 12 .any (Rows.fnExactNetWithoutSpec.pre6 enc Try.prog Try.f12 Rows.fnExactNetWithoutRow.domain false) (Rows.fnExactNetWithoutSpec.post enc Try.prog Try.f12 false true false false) := by
  refine returnsInHanded_of_change (C := Try.checked) own started (by kernel_rfl) Try.func12
    (ChangeSpec.witness6 (enc := enc) (C := Try.checked) false ⟨#[], #[.int .i64 0, .slice none 0 0, .int .i64 0], []⟩ 8 (by kernel_rfl) (by kernel_rfl) (by kernel_rfl) (by kernel_rfl)) ?_
  intro W base args ds gs before hval0 hW hcnd _
  have hval : ∀ (j : Nat) t v, Try.f12.params[j]? = some t → args[j]? = some v → Value.okWide Try.prog W .any base t v := hval0
  have hW' := hW
  obtain ⟨p, q, hA0, hV, rfl, hfz, hnd⟩ := hW
  have hA : DataW.TrodAll enc Try.prog W 0 (fun _ => true) true Try.f12.params.toList args.toList ds p := hA0
  rw [Try.params12] at hA hval
  obtain ⟨v0, vs0, d0, ds0, p0, q0, hargs, rfl, rfl, h0, r0⟩ := trodAll_cons hA
  obtain ⟨v1, vs1, d1, ds1, p1, q1, rfl, rfl, rfl, h1, r1⟩ := trodAll_cons r0
  obtain ⟨v2, vs2, d2, ds2, p2, q2, rfl, rfl, rfl, h2, r2⟩ := trodAll_cons r1
  obtain ⟨rfl, rfl, rfl⟩ := trodAll_nil r2
  obtain rfl : args = #[v0, v1, v2] := by cases args; simp_all
  obtain ⟨rfl, rfl⟩ := trodVars_none hV
  obtain ⟨a0, rfl, rfl, rfl, w0⟩ := open_int Try.underlying3 (hval 0 3 v0 rfl rfl) h0
  obtain ⟨a1, len1, cap1, rfl⟩ := okWide_slice Try.underlying54 (hval 1 54 v1 rfl rfl)
  have k1 := h1
  have lt1 : ∀ x ∈ p1, x.block < W.heap.size := by obtain ⟨m, hm⟩ := k1; exact DataW.trod_lt m _ _ _ hm
  obtain ⟨x1, e1, r1', l1⟩ := open_runs h1
  subst e1
  obtain ⟨a2, rfl, rfl, rfl, w2⟩ := open_int Try.underlying3 (hval 2 3 v2 rfl rfl) h2
  clear hA0 hval0
  refine (walk W a0 w0 a1 cap1 x1 r1' l1 a2 w2).mono fun e W' ⟨he, bel⟩ => ?_
  subst he
  exact ⟨_, rfl, _, _, _, [], _, [], hW', trodAll_mk1 (shut_bool Try.underlying4 _), (trodAll_cons_mk (shut_int Try.underlying3 w0) (trodAll_cons_mk (Below.trod laidOut (by kernel_rfl) (of_decide_eq_true (by kernel_rfl)) k1 bel lt1) (trodAll_cons_mk (shut_int Try.underlying3 w2) trodAll_mk0))), rfl, bel.frame _, fun h => by cases h⟩

theorem over : Rows.fnExactNetWithoutRow.holds Try.pinned (OpenSpec.ofChange Rows.fnExactNetWithoutSpec) :=
  OpenClaim.holds_of_wide 12 Try.f12 rfl rfl rfl rfl rfl rfl rfl ⟨rfl, rfl, rfl, rfl, rfl⟩ rfl rfl rfl rfl rfl (by kernel_rfl) Try.func12 (by kernel_rfl)
    (of_decide_eq_true (by kernel_rfl)) (by unfold Func.isWrapper; first | (rw [if_pos (by decide +kernel)]; kernel_rfl) | (rw [if_neg (by decide +kernel)]; exact ⟨rfl, rfl⟩))
    (fun os started H enc _ => lifted os started H enc)

theorem proved : Rows.FnExactNetWithoutSaid :=
  over
end Go.Proofs.Ytcfnlfldknadlaa.fnExactNetWithout

