/-
  For every number and every list of runs the law FnExactNetMatrix returns true: impl.NetMatrix answers the matrix of the net as the reference model does, in every field, leaves the runs as they were, and its rows are memory of their own. No condition: every int and every list are taken.
-/
import Derived.Test.YtenllemaccacgabOpN
import Derived.Test.YtenllemaccacgabZf
import Derived.Test.YtenllemaccacgabZc
import Derived.Test.YtenllemaccacgabGOpen
import Derived.Test.YtenllemaccacgabZj
import Derived.Test.YtenllemaccacgabZn
namespace Go.Proofs.Ytenllemaccacgab.fnExactNetMatrix
open Go.ChangeShapes Go.WideShapes Go.ChangeAt Go.RowKit
set_option linter.unusedVariables false

/-- a write to one block that is new -/
theorem below_grew {B g : Nat} {a w w' : World} (h : Below B a w) (hg : grew w w' g) (hB : B ≤ g) (hs : B ≤ w.heap.size) : Below B a w' := below_gr h hg.1 hB hs

set_option maxHeartbeats 8000000 in
set_option maxRecDepth 100000 in
theorem walk_yes (w : World) (N n : Nat) (p : Option Addr) (c : Nat) (rs : List Rn) (H : Hid (Runs w p rs)) (hl : rs.length ≤ 12) (h1 : nOk (N : Int) rs = true) (hNn : N = n + 1) :
    Calls Try.prog 3 #[.int .i64 N, .slice p rs.length c] w fun e w' => e = .returned (.bool true) ∧ Below w.heap.size w w' := by
  have hl3 : ¬ (1048576 : Int) < (rs.length : Int) := by omega
  have hl2 : rs.length ≤ 1048576 := by omega
  have hl4 : rs.length ≤ 4000000000000000000 := by omega
  have hl9 : rs.length ≤ 9223372036854775807 := by omega
  have hn5 : n ≤ 5 := by have := (nOk_true h1).2.1; omega
  obtain ⟨M, hM⟩ : ∃ M, mkL n (lap0 rs) = M := ⟨_, rfl⟩
  have c1 := fun p c w h => Lib.hid (sMatrix_yes N n p c _ rs w h h1 rfl hNn)
  have c2 := fun p c w h => Lib.hid (iMatrix_yes N n p c _ rs w h h1 rfl hNn)
  rw [hM] at c1 c2
  have hMs : Sq n M := by rw [← hM]; exact mkL_sq
  have hk : n ≤ 1048576 := by omega
  have hMr : ∀ r ∈ M, r.length ≤ 1048576 := fun r hr => by rw [hMs.2 r hr]; exact hk
  have hMl := hMs.1
  have hgM : gsum M ≤ 1099511627776 := by have := gsum_small (by rw [hMl]; exact hk) hMr M.length; rwa [List.take_length] at this
  have HM := Lib.hid (And.intro hMl hMr)
  have hn1 : ¬ (1 : Int) + (rs.length : Int) * 4 < 0 := by omega
  clear hM hMs hMr hMl h1 hNn
  go_enter Try.func3, Try.ntmps3
  go_wp2_with ((go_at_call 6; (with_reducible refine (szRuns _ _ _ _ hl9).mono ?_); rintro e w' ⟨rfl, rfl⟩))
  go_wp2_with ((go_at_call 8; (with_reducible refine (toRuns p c rs _ ?_ hl2).mono ?_); (focus ((exact H.out.below (by repeat (first | assumption | exact Below.refl _ _ | (refine below_chain ?_ (by assumption) (by first | omega | (simp <;> omega) | simp)) | (refine Below.alloc ?_ (by first | omega | (simp <;> omega) | simp) _) | (apply below_drewN) | (apply below_drew) | (refine Below.setCell ?_ (by first | omega | (simp <;> omega) | simp) _)))); done)); rintro e wa ⟨rfl, oa, hb_wa⟩; have hs_wa := hb_wa.size; (try simp at hs_wa)))
  have OA := Lib.hid oa
  clear oa
  go_wp2_with ((go_at_call 7; (with_reducible refine ((c1 _ _ _ ?_).out).mono ?_); (focus ((exact OA.out.runs); done)); rintro e ws ⟨gs, cs, bs, rfl, os, hb_ws⟩; have hs_ws := hb_ws.size; (try simp at hs_ws)))
  have OS := Lib.hid os
  clear os
  go_wp2_with ((go_at_call 8; (with_reducible refine (toRuns p c rs _ ?_ hl2).mono ?_); (focus ((exact H.out.below (by repeat (first | assumption | exact Below.refl _ _ | (refine below_chain ?_ (by assumption) (by first | omega | (simp <;> omega) | simp)) | (refine Below.alloc ?_ (by first | omega | (simp <;> omega) | simp) _) | (apply below_drewN) | (apply below_drew) | (refine Below.setCell ?_ (by first | omega | (simp <;> omega) | simp) _)))); done)); rintro e wb ⟨rfl, ob, hb_wb⟩; have hs_wb := hb_wb.size; (try simp at hs_wb)))
  have OB := Lib.hid ob
  have hlb := ob.lt
  clear ob
  go_wp2_with ((go_at_call 9; (with_reducible refine ((c2 _ _ _ ?_).out).mono ?_); (focus ((exact OB.out.runs); done)); rintro e wi ⟨gi, ci, bi, rfl, oi, hb_wi⟩; have hs_wi := hb_wi.size; (try simp at hs_wi)))
  have OI := Lib.hid oi
  clear oi
  go_wp2_with ((go_at_call 10; (with_reducible refine (eqG_at HM.out.1 _ _ _ _ _ ?_ ?_ hk HM.out.2).mono ?_); (focus ((exact OI.out.read); done)); (focus ((exact OS.out.read.below (by repeat (first | assumption | exact Below.refl _ _ | (refine below_chain ?_ (by assumption) (by first | omega | (simp <;> omega) | simp)) | (refine Below.alloc ?_ (by first | omega | (simp <;> omega) | simp) _) | (apply below_drewN) | (apply below_drew) | (refine Below.setCell ?_ (by first | omega | (simp <;> omega) | simp) _)))); done)); rintro e w1 ⟨rfl, hb_w1⟩; have hs_w1 := hb_w1.size; (try simp at hs_w1)))
  go_wp2_with ((go_at_call 8; (with_reducible refine (toRuns p c rs _ ?_ hl2).mono ?_); (focus ((exact H.out.below (by repeat (first | assumption | exact Below.refl _ _ | (refine below_chain ?_ (by assumption) (by first | omega | (simp <;> omega) | simp)) | (refine Below.alloc ?_ (by first | omega | (simp <;> omega) | simp) _) | (apply below_drewN) | (apply below_drew) | (refine Below.setCell ?_ (by first | omega | (simp <;> omega) | simp) _)))); done)); rintro e w2 ⟨rfl, oc, hb_w2⟩; have hs_w2 := hb_w2.size; (try simp at hs_w2)))
  have OC := Lib.hid oc
  clear oc
  go_wp2_with ((go_at_call 11; (with_reducible refine (eqRuns _ _ _ _ rs _ ?_ ?_ hl4).mono ?_); (focus ((exact (OB.out.below (by repeat (first | assumption | exact Below.refl _ _ | (refine below_chain ?_ (by assumption) (by first | omega | (simp <;> omega) | simp)) | (refine Below.alloc ?_ (by first | omega | (simp <;> omega) | simp) _) | (apply below_drewN) | (apply below_drew) | (refine Below.setCell ?_ (by first | omega | (simp <;> omega) | simp) _)))).runs); done)); (focus ((exact OC.out.runs); done)); rintro e w3 ⟨rfl, hb_w3⟩; have hs_w3 := hb_w3.size; (try simp at hs_w3)))
  have OB3 := Lib.hid (OB.out.below (w' := w3) (by repeat (first | assumption | exact Below.refl _ _ | (refine below_chain ?_ (by assumption) (by first | omega | (simp <;> omega) | simp)) | (refine Below.alloc ?_ (by first | omega | (simp <;> omega) | simp) _) | (apply below_drewN) | (apply below_drew) | (refine Below.setCell ?_ (by first | omega | (simp <;> omega) | simp) _))))
  have hBi : Below wi.heap.size wi w3 := (by repeat (first | assumption | exact Below.refl _ _ | (refine below_chain ?_ (by assumption) (by first | omega | (simp <;> omega) | simp)) | (refine Below.alloc ?_ (by first | omega | (simp <;> omega) | simp) _) | (apply below_drewN) | (apply below_drew) | (refine Below.setCell ?_ (by first | omega | (simp <;> omega) | simp) _)))
  have hBs : Below ws.heap.size ws w3 := (by repeat (first | assumption | exact Below.refl _ _ | (refine below_chain ?_ (by assumption) (by first | omega | (simp <;> omega) | simp)) | (refine Below.alloc ?_ (by first | omega | (simp <;> omega) | simp) _) | (apply below_drewN) | (apply below_drew) | (refine Below.setCell ?_ (by first | omega | (simp <;> omega) | simp) _)))
  have hBw : Below w.heap.size w w3 := (by repeat (first | assumption | exact Below.refl _ _ | (refine below_chain ?_ (by assumption) (by first | omega | (simp <;> omega) | simp)) | (refine Below.alloc ?_ (by first | omega | (simp <;> omega) | simp) _) | (apply below_drewN) | (apply below_drew) | (refine Below.setCell ?_ (by first | omega | (simp <;> omega) | simp) _)))
  have hzi : wb.heap.size ≤ wi.heap.size := hs_wi
  have hzs : ws.heap.size ≤ wb.heap.size := hs_wb
  have hza : w.heap.size ≤ wa.heap.size := hs_wa
  have hzsa : wa.heap.size ≤ ws.heap.size := hs_ws
  have hz3 : wi.heap.size ≤ w3.heap.size := hBi.size
  have hzws : w.heap.size ≤ ws.heap.size := by omega
  have HK := Lib.hid (And.intro (OI.out.below hBi) (And.intro (OS.out.below hBs) hBw))
  have hgsl := OS.out.lt
  have HSz := Lib.hid (fun (i b c : Nat) (h : bs[i]? = some (b, c)) => OS.out.z i b c h)
  have HIz := Lib.hid (fun (i b c : Nat) (h : bi[i]? = some (b, c)) => OI.out.z i b c h)
  clear OC OA OB OI OS hb_wa hb_ws hb_wb hb_wi hb_w1 hb_w2 hb_w3 hBi hBs hBw
  go_wp2_with (go_at_call 12; (with_reducible refine (markRuns _ _ _ _ _ OB3.out hl2).mono ?_); rintro e wg ⟨rfl, om, hg4⟩; have HGm := Lib.hid (hg4.betw (Nat.le_refl _) hlb); clear hg4 om)
  have hOI := Betw.grid HK.out.1 HGm.out (Nat.le_refl _)
  have hOS := HK.out.2.1.under HGm.out.below hgsl HSz.out
  have Bg := Lib.hid (HK.out.2.2.trans (HGm.out.below.mono hzws))
  have hzg := Bg.out.size
  have HO := Lib.hid (And.intro hOI hOS)
  have hgsz := hOS.lt
  have hgiz := hOI.lt
  have hzz : Hid (∀ (i b c : Nat), bs[i]? = some (b, c) → b < wg.heap.size) := Lib.hid (fun i b c h => hOS.z i b c h)
  have hwi : wi.heap.size ≤ wg.heap.size := by have := HGm.out.1; omega
  clear HK HGm hOI hOS OB3
  go_wp2_with ((go_at_call 10; (with_reducible refine (eqG_at HM.out.1 _ _ _ _ _ ?_ ?_ hk HM.out.2).mono ?_); (focus ((exact HO.out.1.read); done)); (focus ((exact HO.out.2.read); done)); rintro e wh ⟨rfl, hb_wh⟩; have hs_wh := hb_wh.size; (try simp at hs_wh)))
  have HO2 := Lib.hid (And.intro (HO.out.1.below hb_wh) (And.intro (HO.out.2.below hb_wh) (Bg.out.trans (hb_wh.mono hzg))))
  clear HO Bg
  go_wp2_with (go_at_call 13; (with_reducible refine (markG wb.heap.size wi.heap.size n _ _ bi M _ ?_ HM.out.1 hk HM.out.2 HIz.out).mono ?_); (focus (exact HO2.out.1; done)); rintro e wm ⟨rfl, om, hbw_m⟩; have HMm := Lib.hid (And.intro om hbw_m); clear om hbw_m)
  have hOS := HO2.out.2.1.under (HMm.out.2.below.mono hzs) hgsl HSz.out
  have Bm := Lib.hid (HO2.out.2.2.trans (HMm.out.2.below.mono (show w.heap.size ≤ wb.heap.size by omega)))
  have HP := Lib.hid (And.intro HMm.out.1 hOS)
  have hzm := Bm.out.size
  have hgizm := HMm.out.1.lt
  have hgszm := hOS.lt
  clear HO2 HMm hOS HSz HIz
  go_wp2_with (go_at_call 14; (with_reducible refine (heldG n _ _ M _ ?_ HM.out.1 hk HM.out.2).mono ?_); (focus (exact HP.out.1.read; done)); rintro e w' ⟨rfl, rfl⟩)
  go_wp2_with ((go_at_call 8; (with_reducible refine (toRuns p c rs _ ?_ hl2).mono ?_); (focus ((exact H.out.below Bm.out); done)); rintro e wj ⟨rfl, oj, hb_wj⟩; have hs_wj := hb_wj.size; (try simp at hs_wj)))
  have OJ := Lib.hid oj
  clear oj
  go_wp2_with ((go_at_call 9; (with_reducible refine ((c2 _ _ _ ?_).out).mono ?_); (focus ((exact OJ.out.runs); done)); rintro e wk ⟨gk, ck, bk, rfl, ok, hb_wk⟩; have hs_wk := hb_wk.size; (try simp at hs_wk)))
  have OK := Lib.hid ok
  clear ok
  go_wp2_with ((go_at_call 10; (with_reducible refine (eqG_at HM.out.1 _ _ _ _ _ ?_ ?_ hk HM.out.2).mono ?_); (focus ((exact OK.out.read); done)); (focus ((exact HP.out.2.read.below (by repeat (first | assumption | exact Below.refl _ _ | (refine below_chain ?_ (by assumption) (by first | omega | (simp <;> omega) | simp)) | (refine Below.alloc ?_ (by first | omega | (simp <;> omega) | simp) _) | (apply below_drewN) | (apply below_drew) | (refine Below.setCell ?_ (by first | omega | (simp <;> omega) | simp) _)))); done)); rintro e wl ⟨rfl, hb_wl⟩; have hs_wl := hb_wl.size; (try simp at hs_wl)))
  go_wp2_with (go_at_call 14; (with_reducible refine (heldG n _ _ M _ ?_ HM.out.1 hk HM.out.2).mono ?_); (focus (exact HP.out.1.read.below (by repeat (first | assumption | exact Below.refl _ _ | (refine below_chain ?_ (by assumption) (by first | omega | (simp <;> omega) | simp)) | (refine Below.alloc ?_ (by first | omega | (simp <;> omega) | simp) _) | (apply below_drewN) | (apply below_drew) | (refine Below.setCell ?_ (by first | omega | (simp <;> omega) | simp) _))); done)); rintro e w' ⟨rfl, rfl⟩)
  go_ret
  exact ⟨rfl, Bm.out.trans ((show Below wm.heap.size wm wl from (by repeat (first | assumption | exact Below.refl _ _ | (refine below_chain ?_ (by assumption) (by first | omega | (simp <;> omega) | simp)) | (refine Below.alloc ?_ (by first | omega | (simp <;> omega) | simp) _) | (apply below_drewN) | (apply below_drew) | (refine Below.setCell ?_ (by first | omega | (simp <;> omega) | simp) _)))).mono hzm)⟩

set_option maxHeartbeats 8000000 in
theorem walk_no (w : World) (n : Int) (p : Option Addr) (c : Nat) (rs : List Rn) (H : Hid (Runs w p rs)) (hl2 : rs.length ≤ 1048576) (hno : nOk n rs = false) :
    Calls Try.prog 3 #[.int .i64 n, .slice p rs.length c] w fun e w' => e = .returned (.bool true) ∧ Below w.heap.size w w' := by
  have hl3 : ¬ (1048576 : Int) < (rs.length : Int) := by omega
  have hl4 : rs.length ≤ 4000000000000000000 := by omega
  have hl9 : rs.length ≤ 9223372036854775807 := by omega
  have kS := fun w p c h => Lib.hid (sMatrix_no n p c _ rs w h rfl hl4 hno)
  have kI := fun w p c h => Lib.hid (iMatrix_no n p c _ rs w h rfl hl4 hno)
  have hn1 : ¬ (1 : Int) + (rs.length : Int) * 4 < 0 := by omega
  clear hno
  go_enter Try.func3, Try.ntmps3
  go_wp2_with ((go_at_call 6; (with_reducible refine (szRuns _ _ _ _ hl9).mono ?_); rintro e w' ⟨rfl, rfl⟩))
  go_wp2_with ((go_at_call 8; (with_reducible refine (toRuns p c rs _ ?_ hl2).mono ?_); (focus ((exact H.out.below (by repeat (first | assumption | exact Below.refl _ _ | (refine below_chain ?_ (by assumption) (by first | omega | (simp <;> omega) | simp)) | (refine Below.alloc ?_ (by first | omega | (simp <;> omega) | simp) _) | (apply below_drewN) | (apply below_drew) | (refine Below.setCell ?_ (by first | omega | (simp <;> omega) | simp) _)))); done)); rintro e wa ⟨rfl, oa, hb_wa⟩; have hs_wa := hb_wa.size; (try simp at hs_wa)))
  have OA := Lib.hid oa
  clear oa
  go_wp2_with ((go_at_call 7; (with_reducible refine ((kS _ _ _ ?_).out).mono ?_); (focus ((exact OA.out.runs); done)); rintro e ws ⟨⟨v, rfl⟩, hb_ws⟩; have hs_ws := hb_ws.size; (try simp at hs_ws)))
  go_wp2_with ((go_at_call 8; (with_reducible refine (toRuns p c rs _ ?_ hl2).mono ?_); (focus ((exact H.out.below (by repeat (first | assumption | exact Below.refl _ _ | (refine below_chain ?_ (by assumption) (by first | omega | (simp <;> omega) | simp)) | (refine Below.alloc ?_ (by first | omega | (simp <;> omega) | simp) _) | (apply below_drewN) | (apply below_drew) | (refine Below.setCell ?_ (by first | omega | (simp <;> omega) | simp) _)))); done)); rintro e wb ⟨rfl, ob, hb_wb⟩; have hs_wb := hb_wb.size; (try simp at hs_wb)))
  have OB := Lib.hid ob
  have hlb := ob.lt
  clear ob
  go_wp2_with ((go_at_call 9; (with_reducible refine ((kI _ _ _ ?_).out).mono ?_); (focus ((exact OB.out.runs); done)); rintro e wi ⟨⟨qi, di, rfl⟩, hb_wi⟩; have hs_wi := hb_wi.size; (try simp at hs_wi)))
  go_wp2_with ((go_at_call 10; (with_reducible refine (eqG_nil _ _ _ _ _).mono ?_); rintro e w1 ⟨rfl, hb_w1⟩; have hs_w1 := hb_w1.size; (try simp at hs_w1)))
  go_wp2_with ((go_at_call 8; (with_reducible refine (toRuns p c rs _ ?_ hl2).mono ?_); (focus ((exact H.out.below (by repeat (first | assumption | exact Below.refl _ _ | (refine below_chain ?_ (by assumption) (by first | omega | (simp <;> omega) | simp)) | (refine Below.alloc ?_ (by first | omega | (simp <;> omega) | simp) _) | (apply below_drewN) | (apply below_drew) | (refine Below.setCell ?_ (by first | omega | (simp <;> omega) | simp) _)))); done)); rintro e w2 ⟨rfl, oc, hb_w2⟩; have hs_w2 := hb_w2.size; (try simp at hs_w2)))
  have OC := Lib.hid oc
  clear oc
  go_wp2_with ((go_at_call 11; (with_reducible refine (eqRuns _ _ _ _ rs _ ?_ ?_ hl4).mono ?_); (focus ((exact (OB.out.below (by repeat (first | assumption | exact Below.refl _ _ | (refine below_chain ?_ (by assumption) (by first | omega | (simp <;> omega) | simp)) | (refine Below.alloc ?_ (by first | omega | (simp <;> omega) | simp) _) | (apply below_drewN) | (apply below_drew) | (refine Below.setCell ?_ (by first | omega | (simp <;> omega) | simp) _)))).runs); done)); (focus ((exact OC.out.runs); done)); rintro e w3 ⟨rfl, hb_w3⟩; have hs_w3 := hb_w3.size; (try simp at hs_w3)))
  have OB3 := Lib.hid (OB.out.below (w' := w3) (by repeat (first | assumption | exact Below.refl _ _ | (refine below_chain ?_ (by assumption) (by first | omega | (simp <;> omega) | simp)) | (refine Below.alloc ?_ (by first | omega | (simp <;> omega) | simp) _) | (apply below_drewN) | (apply below_drew) | (refine Below.setCell ?_ (by first | omega | (simp <;> omega) | simp) _))))
  have hB3 : Below w.heap.size w w3 := (by repeat (first | assumption | exact Below.refl _ _ | (refine below_chain ?_ (by assumption) (by first | omega | (simp <;> omega) | simp)) | (refine Below.alloc ?_ (by first | omega | (simp <;> omega) | simp) _) | (apply below_drewN) | (apply below_drew) | (refine Below.setCell ?_ (by first | omega | (simp <;> omega) | simp) _)))
  have g5 : w.heap.size ≤ ws.heap.size := by omega
  have g6 : w.heap.size ≤ w3.heap.size := by omega
  clear OC OA OB hb_wa hb_ws hb_wb hb_wi hb_w1 hb_w2 hb_w3
  go_wp2_with (go_at_call 12; (with_reducible refine (markRuns _ _ _ _ _ OB3.out hl2).mono ?_); rintro e w4 ⟨rfl, om, hg4⟩; have hs4 := Nat.le_of_eq hg4.2; have hs4' := Nat.le_of_eq hg4.2.symm; have HG4 := Lib.hid hg4; clear hg4 om)
  have hB4 : Below w.heap.size w w4 := below_grew hB3 HG4.out (by omega) (by omega)
  clear OB3 hB3
  go_wp2_with ((go_at_call 10; (with_reducible refine (eqG_nil _ _ _ _ _).mono ?_); rintro e w5 ⟨rfl, hb_w5⟩; have hs_w5 := hb_w5.size; (try simp at hs_w5)))
  go_wp2_with (go_at_call 13; (with_reducible refine (markG_nil _ _ _).mono ?_); rintro e w' ⟨rfl, rfl⟩)
  go_wp2_with (go_at_call 14; (with_reducible refine (heldG_nil _ _ _).mono ?_); rintro e w' ⟨rfl, rfl⟩)
  go_wp2_with ((go_at_call 8; (with_reducible refine (toRuns p c rs _ ?_ hl2).mono ?_); (focus ((exact H.out.below (by repeat (first | assumption | exact Below.refl _ _ | (refine below_chain ?_ (by assumption) (by first | omega | (simp <;> omega) | simp)) | (refine Below.alloc ?_ (by first | omega | (simp <;> omega) | simp) _) | (apply below_drewN) | (apply below_drew) | (refine Below.setCell ?_ (by first | omega | (simp <;> omega) | simp) _)))); done)); rintro e w7 ⟨rfl, oc, hb_w7⟩; have hs_w7 := hb_w7.size; (try simp at hs_w7)))
  have OC := Lib.hid oc
  clear oc
  go_wp2_with ((go_at_call 9; (with_reducible refine ((kI _ _ _ ?_).out).mono ?_); (focus ((exact OC.out.runs); done)); rintro e w8 ⟨⟨q8, d8, rfl⟩, hb_w8⟩; have hs_w8 := hb_w8.size; (try simp at hs_w8)))
  go_wp2_with ((go_at_call 10; (with_reducible refine (eqG_nil _ _ _ _ _).mono ?_); rintro e w9 ⟨rfl, hb_w9⟩; have hs_w9 := hb_w9.size; (try simp at hs_w9)))
  go_wp2_with (go_at_call 14; (with_reducible refine (heldG_nil _ _ _).mono ?_); rintro e w' ⟨rfl, rfl⟩)
  go_ret
  exact ⟨rfl, (by repeat (first | assumption | exact Below.refl _ _ | (refine below_chain ?_ (by assumption) (by first | omega | (simp <;> omega) | simp)) | (refine Below.alloc ?_ (by first | omega | (simp <;> omega) | simp) _) | (apply below_drewN) | (apply below_drew) | (refine Below.setCell ?_ (by first | omega | (simp <;> omega) | simp) _)))⟩
theorem walk (w : World) (n : Int) (wn : (Lit.int .i64 n).wf = true) (p : Option Addr) (c : Nat) (rs : List Rn) (h : Runs w p rs) (hl : rs.length ≤ 9223372036854775807) :
    Calls Try.prog 3 #[.int .i64 n, .slice p rs.length c] w fun e w' => e = .returned (.bool true) ∧ Below w.heap.size w w' := by
  by_cases hl2 : rs.length ≤ 1048576
  · by_cases hy : nOk n rs = true
    · have h2 := (nOk_true hy).1
      obtain ⟨N, rfl⟩ : ∃ N : Nat, n = (N : Int) := ⟨n.toNat, by omega⟩
      exact walk_yes w N (N - 1) p c rs (Lib.hid h) (nOk_true hy).2.2.1 hy (by omega)
    · exact walk_no w n p c rs (Lib.hid h) hl2 (by simpa using hy)
  · have hl3 : (1048576 : Int) < (rs.length : Int) := by omega
    clear h wn
    go_enter Try.func3, Try.ntmps3
    go_wp2_with ((go_at_call 6; (with_reducible refine (szRuns _ _ _ _ hl).mono ?_); rintro e w' ⟨rfl, rfl⟩))
    go_ret
    exact ⟨rfl, (by repeat (first | assumption | exact Below.refl _ _ | (refine below_chain ?_ (by assumption) (by first | omega | (simp <;> omega) | simp)) | (refine Below.alloc ?_ (by first | omega | (simp <;> omega) | simp) _) | (apply below_drewN) | (apply below_drew) | (refine Below.setCell ?_ (by first | omega | (simp <;> omega) | simp) _)))⟩

set_option maxRecDepth 100000 in
theorem lifted (os : Os) (started : os.Started) (H : Type) (enc : TypeId × Value → H) :
    ReturnsInHanded {} Try.checked os 3 .any (Rows.fnExactNetMatrixSpec.pre6 enc Try.prog Try.f3 Rows.fnExactNetMatrixRow.domain false) (Rows.fnExactNetMatrixSpec.post enc Try.prog Try.f3 false true false false) := by
  refine returnsInHanded_of_change (C := Try.checked) own started (by kernel_rfl) Try.func3
    (ChangeSpec.witness6 (enc := enc) (C := Try.checked) false ⟨#[], #[.int .i64 0, .slice none 0 0], []⟩ 8 (by kernel_rfl) (by kernel_rfl) (by kernel_rfl) (by kernel_rfl)) ?_
  intro W base args ds gs before hval0 hW hcnd _
  have hval : ∀ (j : Nat) t v, Try.f3.params[j]? = some t → args[j]? = some v → Value.okWide Try.prog W .any base t v := hval0
  have hW' := hW
  obtain ⟨p, q, hA0, hV, rfl, hfz, hnd⟩ := hW
  have hA : DataW.TrodAll enc Try.prog W 0 (fun _ => true) true Try.f3.params.toList args.toList ds p := hA0
  rw [Try.params3] at hA hval
  obtain ⟨v0, vs0, d0, ds0, p0, q0, hargs, rfl, rfl, h0, r0⟩ := trodAll_cons hA
  obtain ⟨v1, vs1, d1, ds1, p1, q1, rfl, rfl, rfl, h1, r1⟩ := trodAll_cons r0
  obtain ⟨rfl, rfl, rfl⟩ := trodAll_nil r1
  obtain rfl : args = #[v0, v1] := by cases args; simp_all
  obtain ⟨rfl, rfl⟩ := trodVars_none hV
  obtain ⟨a0, rfl, rfl, rfl, w0⟩ := open_int Try.underlying3 (hval 0 3 v0 rfl rfl) h0
  obtain ⟨a1, len1, cap1, rfl⟩ := okWide_slice Try.underlying22 (hval 1 22 v1 rfl rfl)
  have k1 := h1
  have lt1 : ∀ x ∈ p1, x.block < W.heap.size := by obtain ⟨m, hm⟩ := k1; exact DataW.trod_lt m _ _ _ hm
  obtain ⟨x1, e1, r1', l1⟩ := open_runs h1
  subst e1
  clear hA0 hval0
  refine (walk W a0 w0 a1 cap1 x1 r1' l1).mono fun e W' ⟨he, bel⟩ => ?_
  subst he
  exact ⟨_, rfl, _, _, _, [], _, [], hW', trodAll_mk1 (shut_bool Try.underlying4 _), (trodAll_cons_mk (shut_int Try.underlying3 w0) (trodAll_cons_mk (Below.trod laidOut (by kernel_rfl) (of_decide_eq_true (by kernel_rfl)) k1 bel lt1) trodAll_mk0)), rfl, bel.frame _, fun h => by cases h⟩

theorem over : Rows.fnExactNetMatrixRow.holds Try.pinned (OpenSpec.ofChange Rows.fnExactNetMatrixSpec) :=
  OpenClaim.holds_of_wide 3 Try.f3 rfl rfl rfl rfl rfl rfl rfl ⟨rfl, rfl, rfl, rfl, rfl⟩ rfl rfl rfl rfl rfl (by kernel_rfl) Try.func3 (by unfold joinedFacts; rw [seat_enter, seat_lift, seat_make]; kernel_rfl)
    (of_decide_eq_true (by kernel_rfl)) (by unfold Func.isWrapper; first | (rw [if_pos (by decide +kernel)]; kernel_rfl) | (rw [if_neg (by decide +kernel)]; exact ⟨rfl, rfl⟩))
    (fun os started H enc _ => lifted os started H enc)

theorem proved : Rows.FnExactNetMatrixSaid :=
  over
end Go.Proofs.Ytenllemaccacgab.fnExactNetMatrix

