/-
  For every three points the law FnExactPointOn returns true: impl.PointOn answers what lies between as the reference model does, in every field. No condition: every six ints are taken.
-/
import Derived.Test.YtigmhhdbldlgaaaLaw
import Derived.Test.YtigmhhdbldlgaaaPl
import Derived.Test.YtigmhhdbldlgaaaPy
import Derived.Test.YtigmhhdbldlgaaaRegB
namespace Go.Proofs.Ytigmhhdbldlgaaa.fnExactPointOn
open Go.ChangeShapes Go.WideShapes Go.ChangeAt Go.RowKit
set_option linter.unusedVariables false

set_option maxHeartbeats 2000000 in
theorem walk_of (a0 b0 a1 b1 a2 b2 : Int) (k : Bool) (w : World)
    (hs : ∀ w, Hid (Calls Try.prog 24 #[.agg #[.int .i64 a0, .int .i64 b0], .agg #[.int .i64 a1, .int .i64 b1], .agg #[.int .i64 a2, .int .i64 b2]] w fun e w' => e = .returned (.bool k) ∧ Below w.heap.size w w'))
    (hi : ∀ w, Hid (Calls Try.prog 23 #[.agg #[.int .i64 a0, .int .i64 b0], .agg #[.int .i64 a1, .int .i64 b1], .agg #[.int .i64 a2, .int .i64 b2]] w fun e w' => e = .returned (.bool k) ∧ Below w.heap.size w w')) :
    Calls Try.prog 11 #[.agg #[.int .i64 a0, .int .i64 b0], .agg #[.int .i64 a1, .int .i64 b1], .agg #[.int .i64 a2, .int .i64 b2]] w fun e w' => e = .returned (.bool true) ∧ Below w.heap.size w w' := by
  go_enter Try.func11, Try.ntmps11
  go_wp2_with fail
  (refine wp_region_grows (by kernel_rfl) (by kernel_rfl) ?_; intro W_wg hWc_wg hWs_wg hWe_wg; (repeat (go_big_quiet_step (first | (go_at_call 43; with_reducible exact Ext.call (toPoint_any a0 b0 _)) | (go_at_call 43; with_reducible exact Ext.call (toPoint_any a1 b1 _)) | (go_at_call 43; with_reducible exact Ext.call (toPoint_any a2 b2 _)) | (go_at_call 24; with_reducible exact Ext.call ((hs _).out))))); with_reducible refine wpQuiet_nil ?_; clear hWe_wg hWs_wg hWc_wg W_wg; intro wg hb_wg; obtain ⟨hc_wg, hf_wg⟩ := bcell hb_wg; (try simp only [World.size_drew, World.cell?_drew, World.frozen?_drew, World.heap_drewN, World.cell?_drewN, World.frozen?_drewN] at hc_wg hf_wg); have hs_wg := hb_wg.size; (try simp at hs_wg); (try have hz_wg0 : w.heap.size < wg.heap.size := (by have := hb_wg.size; (try simp at this); omega)); (try have hz_wg1 : w.heap.size + 1 < wg.heap.size := (by have := hb_wg.size; (try simp at this); omega)); (try have hz_wg2 : w.heap.size + 1 + 1 < wg.heap.size := (by have := hb_wg.size; (try simp at this); omega)))
  go_wp2_with fail
  (refine wp_region_grows (by kernel_rfl) (by kernel_rfl) ?_; intro W_wk hWc_wk hWs_wk hWe_wk; (repeat (go_big_quiet_step (first | (go_at_call 43; with_reducible exact Ext.call (toPoint_any a0 b0 _)) | (go_at_call 43; with_reducible exact Ext.call (toPoint_any a1 b1 _)) | (go_at_call 43; with_reducible exact Ext.call (toPoint_any a2 b2 _)) | (go_at_call 23; with_reducible exact Ext.call ((hi _).out))))); with_reducible refine wpQuiet_nil ?_; clear hWe_wk hWs_wk hWc_wk W_wk; intro wk hb_wk; obtain ⟨hc_wk, hf_wk⟩ := bcell hb_wk; (try simp only [World.size_drew, World.cell?_drew, World.frozen?_drew, World.heap_drewN, World.cell?_drewN, World.frozen?_drewN] at hc_wk hf_wk); have hs_wk := hb_wk.size; (try simp at hs_wk); (try have hz_wk0 : w.heap.size < wk.heap.size := (by have := hb_wk.size; (try simp at this); omega)); (try have hz_wk1 : w.heap.size + 1 < wk.heap.size := (by have := hb_wk.size; (try simp at this); omega)); (try have hz_wk2 : w.heap.size + 1 + 1 < wk.heap.size := (by have := hb_wk.size; (try simp at this); omega)))
  go_wp2_with fail
  go_ret
  exact ⟨rfl, (by repeat (first | assumption | exact Below.refl _ _ | (refine below_chain ?_ (by assumption) (by first | omega | (simp <;> omega) | simp)) | (refine Below.alloc ?_ (by first | omega | (simp <;> omega) | simp) _) | (apply below_drewN) | (apply below_drew) | (refine Below.setCell ?_ (by first | omega | (simp <;> omega) | simp) _)))⟩
theorem walk (a0 b0 : Int) (w0 : (Lit.int .i64 a0).wf = true) (x0 : (Lit.int .i64 b0).wf = true) (a1 b1 : Int) (w1 : (Lit.int .i64 a1).wf = true) (x1 : (Lit.int .i64 b1).wf = true) (a2 b2 : Int) (w2 : (Lit.int .i64 a2).wf = true) (x2 : (Lit.int .i64 b2).wf = true) (w : World) :
    Calls Try.prog 11 #[.agg #[.int .i64 a0, .int .i64 b0], .agg #[.int .i64 a1, .int .i64 b1], .agg #[.int .i64 a2, .int .i64 b2]] w fun e w' => e = .returned (.bool true) ∧ Below w.heap.size w w' := by
  clear w0 x0 w1 x1 w2 x2
  exact walk_of a0 b0 a1 b1 a2 b2 _ w (fun w => Lib.hid (sPOn_any a0 b0 a1 b1 a2 b2 w)) (fun w => Lib.hid (iOn_any a0 b0 a1 b1 a2 b2 w))

set_option maxRecDepth 100000 in
theorem lifted (os : Os) (started : os.Started) (H : Type) (enc : TypeId × Value → H) :
    ReturnsInHanded {} Try.checked os 11 .any (Rows.fnExactPointOnSpec.pre6 enc Try.prog Try.f11 Rows.fnExactPointOnRow.domain false) (Rows.fnExactPointOnSpec.post enc Try.prog Try.f11 false true false false) := by
  refine returnsInHanded_of_change (C := Try.checked) own started (by kernel_rfl) Try.func11
    (ChangeSpec.witness6 (enc := enc) (C := Try.checked) false ⟨#[], #[.agg #[.int .i64 0, .int .i64 0], .agg #[.int .i64 0, .int .i64 0], .agg #[.int .i64 0, .int .i64 0]], []⟩ 8 (by kernel_rfl) (by kernel_rfl) (by kernel_rfl) (by kernel_rfl)) ?_
  intro W base args ds gs before hval0 hW hcnd _
  have hval : ∀ (j : Nat) t v, Try.f11.params[j]? = some t → args[j]? = some v → Value.okWide Try.prog W .any base t v := hval0
  have hW' := hW
  obtain ⟨p, q, hA0, hV, rfl, hfz, hnd⟩ := hW
  have hA : DataW.TrodAll enc Try.prog W 0 (fun _ => true) true Try.f11.params.toList args.toList ds p := hA0
  rw [Try.params11] at hA hval
  obtain ⟨v0, vs0, d0, ds0, p0, q0, hargs, rfl, rfl, h0, r0⟩ := trodAll_cons hA
  obtain ⟨v1, vs1, d1, ds1, p1, q1, rfl, rfl, rfl, h1, r1⟩ := trodAll_cons r0
  obtain ⟨v2, vs2, d2, ds2, p2, q2, rfl, rfl, rfl, h2, r2⟩ := trodAll_cons r1
  obtain ⟨rfl, rfl, rfl⟩ := trodAll_nil r2
  obtain rfl : args = #[v0, v1, v2] := by cases args; simp_all
  obtain ⟨rfl, rfl⟩ := trodVars_none hV
  obtain ⟨a0, b0, rfl, rfl, rfl, w0, x0, s0⟩ := open_two Try.underlying45 (by kernel_rfl) (by kernel_rfl) Try.underlying3 rfl rfl (hval 0 45 v0 rfl rfl) h0
  obtain ⟨a1, b1, rfl, rfl, rfl, w1, x1, s1⟩ := open_two Try.underlying45 (by kernel_rfl) (by kernel_rfl) Try.underlying3 rfl rfl (hval 1 45 v1 rfl rfl) h1
  obtain ⟨a2, b2, rfl, rfl, rfl, w2, x2, s2⟩ := open_two Try.underlying45 (by kernel_rfl) (by kernel_rfl) Try.underlying3 rfl rfl (hval 2 45 v2 rfl rfl) h2
  clear hA0 hval0
  simp only [List.append_nil] at hW'
  refine (walk a0 b0 w0 x0 a1 b1 w1 x1 a2 b2 w2 x2 W).mono fun e W' ⟨he, hg⟩ => ?_
  subst he
  exact ⟨_, rfl, post_of_below (pa := []) (pv := []) hW' (fun _ _ _ => (trodAll_cons_mk (shut_bool Try.underlying4 _) trodAll_mk0)) (fun sp _ => (trodAll_cons_mk (s0 _ _) (trodAll_cons_mk (s1 _ _) (trodAll_cons_mk (s2 _ _) trodAll_mk0)))) (fun _ _ => rfl) rfl hg (ok_one (by kernel_rfl) rfl (okWide_bool_mk Try.underlying4 _))⟩

theorem over : Rows.fnExactPointOnRow.holds Try.pinned (OpenSpec.ofChange Rows.fnExactPointOnSpec) :=
  OpenClaim.holds_of_wide 11 Try.f11 rfl rfl rfl rfl rfl rfl rfl ⟨rfl, rfl, rfl, rfl, rfl⟩ rfl rfl rfl rfl rfl (by kernel_rfl) Try.func11 (by kernel_rfl)
    (of_decide_eq_true (by kernel_rfl)) (by unfold Func.isWrapper; first | (rw [if_pos (by decide +kernel)]; kernel_rfl) | (rw [if_neg (by decide +kernel)]; exact ⟨rfl, rfl⟩))
    (fun os started H enc _ => lifted os started H enc)

theorem proved : Rows.FnExactPointOnSaid :=
  over
end Go.Proofs.Ytigmhhdbldlgaaa.fnExactPointOn

