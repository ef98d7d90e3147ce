/-
  For every number, every list of runs and every index the law FnExactAdjustRun returns true: impl.AdjustRun answers as the reference model does, in every field, and leaves the runs as they were. Condition: the package's error variable holds the error that its initialiser lays (the card ties that to the program's text, pruned to the packages that the law loads); every int and every list are taken.
-/
import Derived.Test.YtoaomjchaihkaaaDoorCards
import Derived.Test.YtoaomjchaihkaaaDoorEd
import Derived.Test.YtoaomjchaihkaaaDoorOpN
import Derived.Test.YtoaomjchaihkaaaDoorEya
import Derived.Test.YtoaomjchaihkaaaDoorZf
namespace Go.Proofs.YtoaomjchaihkaaaDoor.fnExactAdjustRun
open Go.ChangeShapes Go.WideShapes Go.ChangeAt Go.RowKit
set_option linter.unusedVariables false

set_option maxHeartbeats 4000000 in
theorem walk_at (w : World) (n : Int) (p : Option Addr) (c : Nat) (rs : List Rn) (k x y : Int) (b : Bool) (H : Hid (Runs w p rs)) (he : Hid (ErrV w)) (hl2 : rs.length ≤ 1048576)
    (kS : ∀ w p c, Runs w p rs → Hid (Calls Tryd.prog 31 #[.int .i64 n, .slice p rs.length c, .int .i64 k] w fun e w' => e = .returned (.tuple #[.agg #[.int .i64 x, .int .i64 y], .bool b]) ∧ Below w.heap.size w w'))
    (kI : ∀ w p c, RunsE w p rs → Hid (Calls Tryd.prog 27 #[.int .i64 n, .slice p rs.length c, .int .i64 k] w fun e w' => e = .returned (.tuple #[.agg #[.int .i64 x, .int .i64 y], .bool b]) ∧ Below w.heap.size w w')) :
    Calls Tryd.prog 10 #[.int .i64 n, .slice p rs.length c, .int .i64 k] w fun e w' => e = .returned (.bool true) ∧ Below w.heap.size w w' := by
  have hl3 : ¬ (1048576 : Int) < (rs.length : Int) := by omega
  have hl4 : rs.length ≤ 4000000000000000000 := by omega
  have hl9 : rs.length ≤ 9223372036854775807 := by omega
  have hn1 : ¬ (1 : Int) + (rs.length : Int) * 4 < 0 := by omega
  go_enter Tryd.func10, Tryd.ntmps10
  go_wp2_with ((go_at_call 35; (with_reducible refine (szRuns _ _ _ _ hl9).mono ?_); rintro e w' ⟨rfl, rfl⟩))
  go_wp2_with ((go_at_call 36; (with_reducible refine (toRuns p c rs _ ?_ hl2).mono ?_); (focus ((exact H.out.below (by repeat (first | assumption | exact Below.refl _ _ | (refine below_chain ?_ (by assumption) (by first | omega | (simp <;> omega) | simp)) | (refine Below.alloc ?_ (by first | omega | (simp <;> omega) | simp) _) | (apply below_drewN) | (apply below_drew) | (refine Below.setCell ?_ (by first | omega | (simp <;> omega) | simp) _)))); done)); rintro e wa ⟨rfl, oa, hb_wa⟩; have hs_wa := hb_wa.size; (try simp at hs_wa)))
  have OA := Lib.hid oa
  clear oa
  go_upto_region 6 with ((go_at_call 31; (with_reducible refine ((kS _ _ _ ?_).out).mono ?_); (focus ((exact OA.out.runs); done)); rintro e ws ⟨rfl, hb_ws⟩; have hs_ws := hb_ws.size; (try simp at hs_ws)))
  have hX := Cell2.new ws x y 31
  have hBs : Below w.heap.size w (ws.alloc (.cells #[.int .i64 x, .int .i64 y] 31)) := (by repeat (first | assumption | exact Below.refl _ _ | (refine below_chain ?_ (by assumption) (by first | omega | (simp <;> omega) | simp)) | (refine Below.alloc ?_ (by first | omega | (simp <;> omega) | simp) _) | (apply below_drewN) | (apply below_drew) | (refine Below.setCell ?_ (by first | omega | (simp <;> omega) | simp) _)))
  obtain ⟨V, hV⟩ : ∃ V, V = ws.alloc (.cells #[.int .i64 x, .int .i64 y] 31) := ⟨_, rfl⟩
  obtain ⟨X, hXe⟩ : ∃ X, X = ws.heap.size := ⟨_, rfl⟩
  rw [← hV] at hX hBs ⊢
  rw [← hXe] at hX ⊢
  have HX := Lib.hid (And.intro hX hBs)
  have hVs := hBs.size
  clear hX hBs hV hXe hb_wa hb_ws OA
  go_wp2_with ((go_at_call 36; (with_reducible refine (toRuns p c rs _ ?_ hl2).mono ?_); (focus ((exact H.out.below HX.out.2); done)); rintro e wb ⟨rfl, ob, hb_wb⟩; have hs_wb := hb_wb.size; (try simp at hs_wb)))
  have OB := Lib.hid ob
  have hobl := ob.lt
  clear ob
  go_upto_region 8 with ((go_at_call 27; (with_reducible refine ((kI _ _ _ ?_).out).mono ?_); (focus ((exact ⟨OB.out.runs, he.out.below (HX.out.2.trans (hb_wb.mono hVs))⟩); done)); rintro e wi ⟨rfl, hb_wi⟩; have hs_wi := hb_wi.size; (try simp at hs_wi)))
  have hY := Cell2.new wi x y 31
  have hal : Below wi.heap.size wi (wi.alloc (.cells #[.int .i64 x, .int .i64 y] 31)) := (Below.refl _ _).alloc (Nat.le_refl _) _
  have hVi : Below V.heap.size V (wi.alloc (.cells #[.int .i64 x, .int .i64 y] 31)) := (hb_wb.trans (hb_wi.mono hs_wb)).trans (hal.mono (Nat.le_trans hs_wb hs_wi))
  have hBi : Below wb.heap.size wb (wi.alloc (.cells #[.int .i64 x, .int .i64 y] 31)) := hb_wi.trans (hal.mono hs_wi)
  obtain ⟨U, hU⟩ : ∃ U, U = wi.alloc (.cells #[.int .i64 x, .int .i64 y] 31) := ⟨_, rfl⟩
  obtain ⟨Y, hYe⟩ : ∃ Y, Y = wi.heap.size := ⟨_, rfl⟩
  rw [← hU] at hY hVi hBi ⊢
  rw [← hYe] at hY ⊢
  have HU := Lib.hid (And.intro (HX.out.2.trans (hVi.mono hVs)) (OB.out.below hBi))
  have hUs := HU.out.1.size
  obtain ⟨x1, x2, x3, x4⟩ := HX.out.1.below hVi
  obtain ⟨y1, y2, y3, y4⟩ := hY
  clear hal hVi hBi hU hYe hb_wb hb_wi OB
  go_wp2_with ((go_at_call 42; (with_reducible refine (eq_any _ _ _).mono ?_); rintro e wq ⟨rfl, hb_wq⟩; have hs_wq := hb_wq.size; (try simp at hs_wq)))
  go_wp2_with ((go_at_call 36; (with_reducible refine (toRuns p c rs _ ?_ hl2).mono ?_); (focus ((exact (H.out.below HU.out.1).below hb_wq); done)); rintro e wc ⟨rfl, oc, hb_wc⟩; have hs_wc := hb_wc.size; (try simp at hs_wc)))
  have OC := Lib.hid oc
  clear oc
  go_wp2_with ((go_at_call 38; (with_reducible refine (eqRuns _ _ _ _ rs _ ?_ ?_ hl4).mono ?_); (focus ((exact (HU.out.2.below (hb_wq.trans (hb_wc.mono hs_wq))).runs); done)); (focus ((exact OC.out.runs); done)); rintro e we ⟨rfl, hb_we⟩; have hs_we := hb_we.size; (try simp at hs_we)))
  have hB := HU.out.1.trans ((hb_wq.trans ((hb_wc.trans (hb_we.mono hs_wc)).mono hs_wq)).mono hUs)
  go_ret
  exact ⟨rfl, hB⟩
theorem walk (w : World) (n : Int) (wn : (Lit.int .i64 n).wf = true) (p : Option Addr) (c : Nat) (rs : List Rn) (h : Runs w p rs) (hl : rs.length ≤ 9223372036854775807) (k : Int) (wk : (Lit.int .i64 k).wf = true) (he : Hid (ErrV w)) :
    Calls Tryd.prog 10 #[.int .i64 n, .slice p rs.length c, .int .i64 k] w fun e w' => e = .returned (.bool true) ∧ Below w.heap.size w w' := by
  by_cases hl2 : rs.length ≤ 1048576
  · have hl4 : rs.length ≤ 4000000000000000000 := by omega
    by_cases hy : adjOk n rs = true ∧ 0 ≤ k ∧ k < rs.length
    · obtain ⟨N, M, rfl, hNM⟩ := adj_nat hy.1
      obtain ⟨j, r, rfl, hj, hr⟩ := hasRun_nat hy.2
      exact walk_at w N p c rs j _ _ _ (Lib.hid h) he hl2 (fun w p c h => Lib.hid (sRun_yes N M j p c _ rs r w h hy.1 rfl hNM hr)) (fun w p c h => Lib.hid (iRun_yes N M j p c _ rs r w h hy.1 rfl hNM hr))
    · exact walk_at w n p c rs k 0 0 false (Lib.hid h) he hl2 (fun w p c h => Lib.hid (sRun_no n k p c _ rs w h rfl hl4 hy)) (fun w p c h => Lib.hid (iRun_no n k p c _ rs w h rfl hl4 hy))
  · have hl3 : (1048576 : Int) < (rs.length : Int) := by omega
    clear h wn wk
    go_enter Tryd.func10, Tryd.ntmps10
    go_wp2_with ((go_at_call 35; (with_reducible refine (szRuns _ _ _ _ hl).mono ?_); rintro e w' ⟨rfl, rfl⟩))
    go_ret
    exact ⟨rfl, (by repeat (first | assumption | exact Below.refl _ _ | (refine below_chain ?_ (by assumption) (by first | omega | (simp <;> omega) | simp)) | (refine Below.alloc ?_ (by first | omega | (simp <;> omega) | simp) _) | (apply below_drewN) | (apply below_drew) | (refine Below.setCell ?_ (by first | omega | (simp <;> omega) | simp) _)))⟩

set_option maxRecDepth 100000 in
theorem contract (H : Type) (enc : TypeId × Value → H) (W : World) (base : Nat) (args : Array Value) (ds gs : List (DataW H)) (before : List MemPlace)
    (hval : ∀ (j : Nat) t v, Tryd.f10.params[j]? = some t → args[j]? = some v → Value.okWide Tryd.prog W .any base t v)
    (hW : DataW.Whole enc Tryd.prog Tryd.f10.params.toList Rows.fnExactAdjustRunSpec.vars false W args.toList ds gs before) (hL : laidMetH Tryd.prog Rows.fnExactAdjustRunRow.laid W) :
    Calls Tryd.prog 10 args W fun e W' => ∃ v, e = .returned v ∧ Rows.fnExactAdjustRunSpec.post enc Tryd.prog Tryd.f10 false true false false W args v W' := by
  have hL' : laidMet Tryd.prog Rows.fnExactAdjustRunRow.laid W := (MakeChecks.laidMetH_plain Tryd.prog Rows.fnExactAdjustRunRow.laid W (by kernel_rfl)) ▸ hL
  obtain ⟨ae, hve⟩ := err_laid hL'
  have hW' := hW
  obtain ⟨p, q, hA0, hV0, rfl, hfz, hnd⟩ := hW
  have hA : DataW.TrodAll enc Tryd.prog W 0 (fun _ => true) true Tryd.f10.params.toList args.toList ds p := hA0
  have hV : DataW.TrodVars enc Tryd.prog W (fun _ => true) ["loop.example/levellingnet/impl.errNoQuotients"] gs q := hV0
  rw [Tryd.params10] at hA hval
  obtain ⟨v0, vs0, d0, ds0, p0, q0, hargs, rfl, rfl, h0, r0⟩ := trodAll_cons hA
  obtain ⟨v1, vs1, d1, ds1, p1, q1, rfl, rfl, rfl, h1, r1⟩ := trodAll_cons r0
  obtain ⟨v2, vs2, d2, ds2, p2, q2, rfl, rfl, rfl, h2, r2⟩ := trodAll_cons r1
  obtain ⟨rfl, rfl, rfl⟩ := trodAll_nil r2
  obtain rfl : args = #[v0, v1, v2] := by cases args; simp_all
  obtain ⟨rfl, rfl⟩ := hV.unique (hve.reads enc _)
  obtain ⟨a0, rfl, rfl, rfl, w0⟩ := open_int Tryd.underlying3 (hval 0 3 v0 rfl rfl) h0
  obtain ⟨a1, len1, cap1, rfl⟩ := okWide_slice Tryd.underlying55 (hval 1 55 v1 rfl rfl)
  have k1 := h1
  have lt1 : ∀ x ∈ p1, x.block < W.heap.size := by obtain ⟨m, hm⟩ := k1; exact DataW.trod_lt m _ _ _ hm
  obtain ⟨x1, e1, r1', l1⟩ := open_runs h1
  subst e1
  obtain ⟨a2, rfl, rfl, rfl, w2⟩ := open_int Tryd.underlying3 (hval 2 3 v2 rfl rfl) h2
  clear hA0 hV0
  refine (walk W a0 w0 a1 cap1 x1 r1' l1 a2 w2 (Lib.hid hve.err)).mono fun e W' ⟨he, bel⟩ => ?_
  subst he
  exact ⟨_, rfl, _, _, _, [], _, [.cell 0 0], hW', trodAll_mk1 (shut_bool Tryd.underlying4 _), (trodAll_cons_mk (shut_int Tryd.underlying3 w0) (trodAll_cons_mk (Below.trod laidOut (by kernel_rfl) (of_decide_eq_true (by kernel_rfl)) k1 bel lt1) (trodAll_cons_mk (shut_int Tryd.underlying3 w2) trodAll_mk0))), (hve.below bel).reads enc _, bel.frame _, fun h => by cases h⟩

theorem laid_met (os : Os) : laidMet Tryd.prog Rows.fnExactAdjustRunRow.laid ((World.doorLaid Tryd.prog 400 os).forCall (fun _ _ => 0) ⟨#[], #[.int .i64 0, .slice none 0 0, .int .i64 0], []⟩).memory :=
  laidMet_of_run' 8 (by kernel_rfl) (by kernel_rfl)

set_option maxRecDepth 100000 in
theorem lifted (os : Os) (started : os.Started) (H : Type) (enc : TypeId × Value → H) (F : Stop.Interp) :
    ReturnsInHanded {} Tryd.checked os 10 .any ((OpenSpec.ofChange Rows.fnExactAdjustRunSpec).preRow enc Tryd.prog Tryd.f10 Rows.fnExactAdjustRunRow.domain false Rows.fnExactAdjustRunRow.laid) (((OpenSpec.ofChange Rows.fnExactAdjustRunSpec).at F).post enc Tryd.prog Tryd.f10 false true false false) := by
  refine returnsInHanded_of_row (C := Tryd.checked) (s := OpenSpec.ofChange Rows.fnExactAdjustRunSpec) own started (by kernel_rfl) Tryd.func10
    (witness_row_at (enc := enc) (C := Tryd.checked) false (World.doorLaid Tryd.prog 400 os) #[.int .i64 0, .slice none 0 0, .int .i64 0] rfl (by kernel_rfl) (by kernel_rfl) (by kernel_rfl)
      (OpenSpec.preRow_of_B rfl 8 (by kernel_rfl) (by kernel_rfl) (laid_met os))) ?_
  intro W base args ds gs before hval hW _ _ _ hL _ _
  exact contract H enc W base args ds gs before hval hW hL

theorem said : Rows.FnExactAdjustRunSaid :=
  OpenClaim.holds_of_cond 10 Tryd.f10 rfl rfl rfl rfl rfl rfl rfl ⟨rfl, rfl, rfl, rfl, rfl⟩ rfl rfl rfl rfl rfl (by kernel_rfl) Tryd.func10 (by kernel_rfl)
    (of_decide_eq_true (by kernel_rfl)) (by unfold Func.isWrapper; first | (rw [if_pos (by decide +kernel)]; kernel_rfl) | (rw [if_neg (by decide +kernel)]; exact ⟨rfl, rfl⟩))
    (fun os started H enc _ F => by rw [OpenClaim.pre_eq_preRow]; exact lifted os started H enc F)

theorem plain (f : FuncId) (fn : Func) (hf : Tryd.pinned.checked.prog.funcNamed "loop.example/levellingnet/laws.FnExactAdjustRun" = some f) (hfn : Tryd.pinned.checked.prog.funcs[f]? = some fn) :
    true = Tryd.pinned.checked.prog.looks [] ∧ ∀ (j : Nat) t, fn.params[j]? = some t → Tryd.pinned.checked.prog.wantsStandIn t = false := by
  obtain rfl : f = 10 := Option.some.inj ((show Tryd.prog.funcNamed "loop.example/levellingnet/laws.FnExactAdjustRun" = some 10 by kernel_rfl).symm.trans hf) |>.symm
  obtain rfl : fn = Tryd.f10 := (Option.some.inj (Tryd.func10.symm.trans hfn)).symm
  refine ⟨by kernel_rfl, fun j t ht => ?_⟩
  rw [Tryd.params10] at ht
  have hm : t ∈ [3, 55, 3] := by simpa using Array.mem_of_getElem? ht
  have hall : ([3, 55, 3].all fun u => !Tryd.prog.wantsStandIn u) = true := by kernel_rfl
  exact (show Tryd.prog.wantsStandIn t = false by simpa using List.all_eq_true.1 hall t hm)

theorem card : Rows.FnExactAdjustRunCardSaid :=
  Claim7.holds_tied_plain_at .later [] _ _ _ _ said (fun _ h => by cases h) (by kernel_rfl) (fun _ h => by cases h) fnExactAdjustRun_row_tie rfl ⟨rfl, rfl⟩ (by kernel_rfl) rfl plain (by kernel_rfl)
end Go.Proofs.YtoaomjchaihkaaaDoor.fnExactAdjustRun

