/-
  For every number, every list of runs and every index the law FnExactSpreadFree returns true: impl.SpreadFree answers as the reference model does, in every field, and leaves the runs as they were. No condition: every int and every list are taken.
-/
import Derived.Test.YtenllemaccacgaaOpN
import Derived.Test.YtenllemaccacgaaRe
import Derived.Test.YtenllemaccacgaaZf
namespace Go.Proofs.Ytenllemaccacgaa.fnExactSpreadFree
open Go.ChangeShapes Go.WideShapes Go.ChangeAt Go.RowKit
set_option linter.unusedVariables false

set_option maxHeartbeats 4000000 in
theorem walk_at (w : World) (n : Int) (p : Option Addr) (c : Nat) (rs : List Rn) (k x y : Int) (b : Bool) (H : Hid (Runs w p rs)) (hl2 : rs.length ≤ 1048576)
    (kS : ∀ w p c, Runs w p rs → Hid (Calls Try.prog 28 #[.int .i64 n, .slice p rs.length c, .int .i64 k] w fun e w' => e = .returned (.tuple #[.agg #[.int .i64 x, .int .i64 y], .bool b]) ∧ Below w.heap.size w w'))
    (kI : ∀ w p c, Runs w p rs → Hid (Calls Try.prog 27 #[.int .i64 n, .slice p rs.length c, .int .i64 k] w fun e w' => e = .returned (.tuple #[.agg #[.int .i64 x, .int .i64 y], .bool b]) ∧ Below w.heap.size w w')) :
    Calls Try.prog 13 #[.int .i64 n, .slice p rs.length c, .int .i64 k] w fun e w' => e = .returned (.bool true) ∧ Below w.heap.size w w' := by
  have hl3 : ¬ (1048576 : Int) < (rs.length : Int) := by omega
  have hl4 : rs.length ≤ 4000000000000000000 := by omega
  have hl9 : rs.length ≤ 9223372036854775807 := by omega
  have hn1 : ¬ (1 : Int) + (rs.length : Int) * 4 < 0 := by omega
  go_enter Try.func13, Try.ntmps13
  go_wp2_with ((go_at_call 41; (with_reducible refine (szRuns _ _ _ _ hl9).mono ?_); rintro e w' ⟨rfl, rfl⟩))
  go_wp2_with ((go_at_call 42; (with_reducible refine (toRuns p c rs _ ?_ hl2).mono ?_); (focus ((exact H.out.below (by repeat (first | assumption | exact Below.refl _ _ | (refine below_chain ?_ (by assumption) (by first | omega | (simp <;> omega) | simp)) | (refine Below.alloc ?_ (by first | omega | (simp <;> omega) | simp) _) | (apply below_drewN) | (apply below_drew) | (refine Below.setCell ?_ (by first | omega | (simp <;> omega) | simp) _)))); done)); rintro e wa ⟨rfl, oa, hb_wa⟩; have hs_wa := hb_wa.size; (try simp at hs_wa)))
  have OA := Lib.hid oa
  clear oa
  go_upto_region 6 with ((go_at_call 28; (with_reducible refine ((kS _ _ _ ?_).out).mono ?_); (focus ((exact OA.out.runs); done)); rintro e ws ⟨rfl, hb_ws⟩; have hs_ws := hb_ws.size; (try simp at hs_ws)))
  have hX := Cell2.new ws x y 27
  have hBs : Below w.heap.size w (ws.alloc (.cells #[.int .i64 x, .int .i64 y] 27)) := (by repeat (first | assumption | exact Below.refl _ _ | (refine below_chain ?_ (by assumption) (by first | omega | (simp <;> omega) | simp)) | (refine Below.alloc ?_ (by first | omega | (simp <;> omega) | simp) _) | (apply below_drewN) | (apply below_drew) | (refine Below.setCell ?_ (by first | omega | (simp <;> omega) | simp) _)))
  obtain ⟨V, hV⟩ : ∃ V, V = ws.alloc (.cells #[.int .i64 x, .int .i64 y] 27) := ⟨_, rfl⟩
  obtain ⟨X, hXe⟩ : ∃ X, X = ws.heap.size := ⟨_, rfl⟩
  rw [← hV] at hX hBs ⊢
  rw [← hXe] at hX ⊢
  have HX := Lib.hid (And.intro hX hBs)
  have hVs := hBs.size
  clear hX hBs hV hXe hb_wa hb_ws OA
  go_wp2_with ((go_at_call 42; (with_reducible refine (toRuns p c rs _ ?_ hl2).mono ?_); (focus ((exact H.out.below HX.out.2); done)); rintro e wb ⟨rfl, ob, hb_wb⟩; have hs_wb := hb_wb.size; (try simp at hs_wb)))
  have OB := Lib.hid ob
  have hobl := ob.lt
  clear ob
  go_upto_region 8 with ((go_at_call 27; (with_reducible refine ((kI _ _ _ ?_).out).mono ?_); (focus ((exact OB.out.runs); done)); rintro e wi ⟨rfl, hb_wi⟩; have hs_wi := hb_wi.size; (try simp at hs_wi)))
  have hY := Cell2.new wi x y 27
  have hal : Below wi.heap.size wi (wi.alloc (.cells #[.int .i64 x, .int .i64 y] 27)) := (Below.refl _ _).alloc (Nat.le_refl _) _
  have hVi : Below V.heap.size V (wi.alloc (.cells #[.int .i64 x, .int .i64 y] 27)) := (hb_wb.trans (hb_wi.mono hs_wb)).trans (hal.mono (Nat.le_trans hs_wb hs_wi))
  have hBi : Below wb.heap.size wb (wi.alloc (.cells #[.int .i64 x, .int .i64 y] 27)) := hb_wi.trans (hal.mono hs_wi)
  obtain ⟨U, hU⟩ : ∃ U, U = wi.alloc (.cells #[.int .i64 x, .int .i64 y] 27) := ⟨_, rfl⟩
  obtain ⟨Y, hYe⟩ : ∃ Y, Y = wi.heap.size := ⟨_, rfl⟩
  rw [← hU] at hY hVi hBi ⊢
  rw [← hYe] at hY ⊢
  have HU := Lib.hid (And.intro (HX.out.2.trans (hVi.mono hVs)) (OB.out.below hBi))
  have hUs := HU.out.1.size
  obtain ⟨x1, x2, x3, x4⟩ := HX.out.1.below hVi
  obtain ⟨y1, y2, y3, y4⟩ := hY
  clear hal hVi hBi hU hYe hb_wb hb_wi OB
  go_wp2_with ((go_at_call 43; (with_reducible refine (eq_any _ _ _).mono ?_); rintro e wq ⟨rfl, hb_wq⟩; have hs_wq := hb_wq.size; (try simp at hs_wq)))
  go_wp2_with ((go_at_call 42; (with_reducible refine (toRuns p c rs _ ?_ hl2).mono ?_); (focus ((exact (H.out.below HU.out.1).below hb_wq); done)); rintro e wc ⟨rfl, oc, hb_wc⟩; have hs_wc := hb_wc.size; (try simp at hs_wc)))
  have OC := Lib.hid oc
  clear oc
  go_wp2_with ((go_at_call 44; (with_reducible refine (eqRuns _ _ _ _ rs _ ?_ ?_ hl4).mono ?_); (focus ((exact (HU.out.2.below (hb_wq.trans (hb_wc.mono hs_wq))).runs); done)); (focus ((exact OC.out.runs); done)); rintro e we ⟨rfl, hb_we⟩; have hs_we := hb_we.size; (try simp at hs_we)))
  have hB := HU.out.1.trans ((hb_wq.trans ((hb_wc.trans (hb_we.mono hs_wc)).mono hs_wq)).mono hUs)
  go_ret
  exact ⟨rfl, hB⟩
theorem walk (w : World) (n : Int) (wn : (Lit.int .i64 n).wf = true) (p : Option Addr) (c : Nat) (rs : List Rn) (h : Runs w p rs) (hl : rs.length ≤ 9223372036854775807) (k : Int) (wk : (Lit.int .i64 k).wf = true) :
    Calls Try.prog 13 #[.int .i64 n, .slice p rs.length c, .int .i64 k] w fun e w' => e = .returned (.bool true) ∧ Below w.heap.size w w' := by
  by_cases hl2 : rs.length ≤ 1048576
  · have hl4 : rs.length ≤ 4000000000000000000 := by omega
    by_cases hy : nWhole n rs = true ∧ 0 ≤ k ∧ k < rs.length
    · obtain ⟨N, M, rfl, hNM⟩ := whole_nat hy.1
      obtain ⟨j, r, rfl, hj, hr⟩ := hasRun_nat hy.2
      exact walk_at w N p c rs j _ _ _ (Lib.hid h) hl2 (fun w p c h => Lib.hid (sSpreadFree_yes N j p c _ rs r w h hy.1 rfl hr)) (fun w p c h => Lib.hid (iSpreadFree_yes N j p c _ rs r w h hy.1 rfl hr))
    · exact walk_at w n p c rs k 0 0 false (Lib.hid h) hl2 (fun w p c h => Lib.hid (sSpreadFree_no n k p c _ rs w h rfl hl4 hy)) (fun w p c h => Lib.hid (iSpreadFree_no n k p c _ rs w h rfl hl4 hy))
  · have hl3 : (1048576 : Int) < (rs.length : Int) := by omega
    clear h wn wk
    go_enter Try.func13, Try.ntmps13
    go_wp2_with ((go_at_call 41; (with_reducible refine (szRuns _ _ _ _ hl).mono ?_); rintro e w' ⟨rfl, rfl⟩))
    go_ret
    exact ⟨rfl, (by repeat (first | assumption | exact Below.refl _ _ | (refine below_chain ?_ (by assumption) (by first | omega | (simp <;> omega) | simp)) | (refine Below.alloc ?_ (by first | omega | (simp <;> omega) | simp) _) | (apply below_drewN) | (apply below_drew) | (refine Below.setCell ?_ (by first | omega | (simp <;> omega) | simp) _)))⟩

end Go.Proofs.Ytenllemaccacgaa.fnExactSpreadFree
