/-
  For every two points the law FnExactPointGaps returns true: impl.PointGaps answers how many whole points there are as the reference model does, in every field. No condition: every four ints are taken.
-/
import Derived.Test.YtllpcbbomcmpbaaLaw
import Derived.Test.YtllpcbbomcmpbaaPl
import Derived.Test.YtllpcbbomcmpbaaPv
import Derived.Deep.RegionHeld3
import Derived.Deep.DeepCutAuto
namespace Go.Proofs.Ytllpcbbomcmpbaa.fnExactPointGaps
open Go.ChangeShapes Go.WideShapes Go.ChangeAt Go.RowKit
set_option linter.unusedVariables false

set_option maxHeartbeats 4000000 in
theorem walk_of (a0 b0 : Int) (a1 b1 : Int) (x : Int) (w : World)
    (hs : ∀ w, Hid (Calls Try.prog 28 #[.agg #[.int .i64 a0, .int .i64 b0], .agg #[.int .i64 a1, .int .i64 b1]] w fun e w' => e = .returned (.int .i64 x) ∧ Below w.heap.size w w'))
    (hi : ∀ w, Hid (Calls Try.prog 26 #[.agg #[.int .i64 a0, .int .i64 b0], .agg #[.int .i64 a1, .int .i64 b1]] w fun e w' => e = .returned (.int .i64 x) ∧ Below w.heap.size w w')) :
    Calls Try.prog 14 #[.agg #[.int .i64 a0, .int .i64 b0], .agg #[.int .i64 a1, .int .i64 b1]] w fun e w' => e = .returned (.bool true) ∧ Below w.heap.size w w' := by
  go_enter Try.func14, Try.ntmps14
  go_upto_region 1 with fail
  go_cut [5] (fun s5 wx => s5 = .int .i64 x ∧ wx.cell? ⟨w.heap.size, 0, none⟩ = some (.int .i64 a0) ∧ wx.cell? ⟨w.heap.size, 1, none⟩ = some (.int .i64 b0) ∧ wx.cell? ⟨w.heap.size + 1, 0, none⟩ = some (.int .i64 a1) ∧ wx.cell? ⟨w.heap.size + 1, 1, none⟩ = some (.int .i64 b1) ∧ w.heap.size + 1 < wx.heap.size ∧ Below w.heap.size w wx)
  case first =>
    go_region_held3 (fun W => W.cell? ⟨w.heap.size, 0, none⟩ = some (.int .i64 a0) ∧ W.cell? ⟨w.heap.size, 1, none⟩ = some (.int .i64 b0) ∧ W.cell? ⟨w.heap.size + 1, 0, none⟩ = some (.int .i64 a1) ∧ W.cell? ⟨w.heap.size + 1, 1, none⟩ = some (.int .i64 b1)) (((try dsimp only); (try go_split_ands); refine ⟨?_, ?_, ?_, ?_⟩ <;> (first | ((repeat (first | with_reducible assumption | (with_reducible refine cell_below_keep (by with_reducible assumption) ?_) | (simp [go_sem]; done) | (with_reducible refine cell_alloc_keep _ ?_) | (with_reducible refine cell_drew_keep ?_) | (with_reducible refine cell_drewN_keep _ ?_) | (with_reducible refine cell_set_keep _ (by first | (simp; omega) | omega) ?_))); done) | (simp [*, go_sem]; done))))
      (first | (go_at_call 33; (with_reducible refine (toPoint_any a0 b0 _).mono ?_); rintro e wp0 ⟨rfl, hbn⟩; obtain ⟨hcn, hfn⟩ := bcell hbn; (try simp only [World.size_drew, World.cell?_drew, World.frozen?_drew] at hcn hfn); have hsz := hbn.size; (try simp at hsz); (try have hsl := Nat.lt_of_succ_le hsz); (try have hz0 : w.heap.size < wp0.heap.size := (by have := hbn.size; (try simp at this); omega)); (try have hz1 : w.heap.size + 1 < wp0.heap.size := (by have := hbn.size; (try simp at this); omega)); (try have hz2 : w.heap.size + 1 + 1 < wp0.heap.size := (by have := hbn.size; (try simp at this); omega)); (have hy0 : w.heap.size < wp0.heap.size + 1 + 1 := (by omega)); (have hx0 : w.heap.size ≤ wp0.heap.size + 1 := (by omega)); (have hy1 : w.heap.size + 1 < wp0.heap.size + 1 + 1 := (by omega)); (have hx1 : w.heap.size + 1 ≤ wp0.heap.size + 1 := (by omega)); (have hy2 : w.heap.size + 1 + 1 < wp0.heap.size + 1 + 1 := (by omega)); (have hx2 : w.heap.size + 1 + 1 ≤ wp0.heap.size + 1 := (by omega))) | (go_at_call 33; (with_reducible refine (toPoint_any a1 b1 _).mono ?_); rintro e wp1 ⟨rfl, hbn⟩; obtain ⟨hcn, hfn⟩ := bcell hbn; (try simp only [World.size_drew, World.cell?_drew, World.frozen?_drew] at hcn hfn); have hsz := hbn.size; (try simp at hsz); (try have hsl := Nat.lt_of_succ_le hsz); (try have hz0 : w.heap.size < wp1.heap.size := (by have := hbn.size; (try simp at this); omega)); (try have hz1 : w.heap.size + 1 < wp1.heap.size := (by have := hbn.size; (try simp at this); omega)); (try have hz2 : w.heap.size + 1 + 1 < wp1.heap.size := (by have := hbn.size; (try simp at this); omega)); (try have hz3 : wp0.heap.size < wp1.heap.size := (by have := hbn.size; (try simp at this); omega)); (have hy0 : w.heap.size < wp1.heap.size + 1 + 1 := (by omega)); (have hx0 : w.heap.size ≤ wp1.heap.size + 1 := (by omega)); (have hy1 : w.heap.size + 1 < wp1.heap.size + 1 + 1 := (by omega)); (have hx1 : w.heap.size + 1 ≤ wp1.heap.size + 1 := (by omega)); (have hy2 : w.heap.size + 1 + 1 < wp1.heap.size + 1 + 1 := (by omega)); (have hx2 : w.heap.size + 1 + 1 ≤ wp1.heap.size + 1 := (by omega)); (have hy3 : wp0.heap.size < wp1.heap.size + 1 + 1 := (by omega)); (have hx3 : wp0.heap.size ≤ wp1.heap.size + 1 := (by omega))) | (go_at_call 28; (with_reducible refine ((hs _).out).mono ?_); rintro e ws ⟨rfl, hbn⟩; obtain ⟨hcn, hfn⟩ := bcell hbn; (try simp only [World.size_drew, World.cell?_drew, World.frozen?_drew] at hcn hfn); have hsz := hbn.size; (try simp at hsz); (try have hsl := Nat.lt_of_succ_le hsz); (try have hz0 : w.heap.size < ws.heap.size := (by have := hbn.size; (try simp at this); omega)); (try have hz1 : w.heap.size + 1 < ws.heap.size := (by have := hbn.size; (try simp at this); omega)); (try have hz2 : w.heap.size + 1 + 1 < ws.heap.size := (by have := hbn.size; (try simp at this); omega)); (try have hz3 : wp0.heap.size < ws.heap.size := (by have := hbn.size; (try simp at this); omega)); (try have hz4 : wp1.heap.size < ws.heap.size := (by have := hbn.size; (try simp at this); omega))))
    all_goals go_wp2_with fail
    all_goals (go_meet; exact ⟨rfl, by simp [*, go_sem], by simp [*, go_sem], by simp [*, go_sem], by simp [*, go_sem], (by first | omega | (simp <;> omega) | simp), (by repeat (first | assumption | exact Below.refl _ _ | (refine below_chain ?_ (by assumption) (by first | omega | (simp <;> omega) | simp)) | (refine Below.alloc ?_ (by first | omega | (simp <;> omega) | simp) _) | (apply below_drewN) | (apply below_drew) | (refine Below.setCell ?_ (by first | omega | (simp <;> omega) | simp) _)))⟩)
  case rest =>
    obtain ⟨rfl, k0, k1, k2, k3, kz, kB⟩ := hcut
    have kz0 : w.heap.size < wc.heap.size := by omega
    go_upto_region 2 with fail
    go_cut [6] (fun s6 wx => s6 = .int .i64 x ∧ Below w.heap.size w wx)
    case first =>
      go_region_held3 (fun W => W.cell? ⟨w.heap.size, 0, none⟩ = some (.int .i64 a0) ∧ W.cell? ⟨w.heap.size, 1, none⟩ = some (.int .i64 b0) ∧ W.cell? ⟨w.heap.size + 1, 0, none⟩ = some (.int .i64 a1) ∧ W.cell? ⟨w.heap.size + 1, 1, none⟩ = some (.int .i64 b1)) (((try dsimp only); (try go_split_ands); refine ⟨?_, ?_, ?_, ?_⟩ <;> (first | ((repeat (first | with_reducible assumption | (with_reducible refine cell_below_keep (by with_reducible assumption) ?_) | (simp [go_sem]; done) | (with_reducible refine cell_alloc_keep _ ?_) | (with_reducible refine cell_drew_keep ?_) | (with_reducible refine cell_drewN_keep _ ?_) | (with_reducible refine cell_set_keep _ (by first | (simp; omega) | omega) ?_))); done) | (simp [*, go_sem]; done))))
        (first | (go_at_call 33; (with_reducible refine (toPoint_any a0 b0 _).mono ?_); rintro e wp0 ⟨rfl, hbn⟩; obtain ⟨hcn, hfn⟩ := bcell hbn; (try simp only [World.size_drew, World.cell?_drew, World.frozen?_drew] at hcn hfn); have hsz := hbn.size; (try simp at hsz); (try have hsl := Nat.lt_of_succ_le hsz); (try have hz0 : w.heap.size < wp0.heap.size := (by have := hbn.size; (try simp at this); omega)); (try have hz1 : w.heap.size + 1 < wp0.heap.size := (by have := hbn.size; (try simp at this); omega)); (try have hz2 : wc.heap.size < wp0.heap.size := (by have := hbn.size; (try simp at this); omega)); (have hy0 : w.heap.size < wp0.heap.size + 1 + 1 := (by omega)); (have hx0 : w.heap.size ≤ wp0.heap.size + 1 := (by omega)); (have hy1 : w.heap.size + 1 < wp0.heap.size + 1 + 1 := (by omega)); (have hx1 : w.heap.size + 1 ≤ wp0.heap.size + 1 := (by omega)); (have hy2 : wc.heap.size < wp0.heap.size + 1 + 1 := (by omega)); (have hx2 : wc.heap.size ≤ wp0.heap.size + 1 := (by omega))) | (go_at_call 33; (with_reducible refine (toPoint_any a1 b1 _).mono ?_); rintro e wp1 ⟨rfl, hbn⟩; obtain ⟨hcn, hfn⟩ := bcell hbn; (try simp only [World.size_drew, World.cell?_drew, World.frozen?_drew] at hcn hfn); have hsz := hbn.size; (try simp at hsz); (try have hsl := Nat.lt_of_succ_le hsz); (try have hz0 : w.heap.size < wp1.heap.size := (by have := hbn.size; (try simp at this); omega)); (try have hz1 : w.heap.size + 1 < wp1.heap.size := (by have := hbn.size; (try simp at this); omega)); (try have hz2 : wc.heap.size < wp1.heap.size := (by have := hbn.size; (try simp at this); omega)); (try have hz3 : wp0.heap.size < wp1.heap.size := (by have := hbn.size; (try simp at this); omega)); (have hy0 : w.heap.size < wp1.heap.size + 1 + 1 := (by omega)); (have hx0 : w.heap.size ≤ wp1.heap.size + 1 := (by omega)); (have hy1 : w.heap.size + 1 < wp1.heap.size + 1 + 1 := (by omega)); (have hx1 : w.heap.size + 1 ≤ wp1.heap.size + 1 := (by omega)); (have hy2 : wc.heap.size < wp1.heap.size + 1 + 1 := (by omega)); (have hx2 : wc.heap.size ≤ wp1.heap.size + 1 := (by omega)); (have hy3 : wp0.heap.size < wp1.heap.size + 1 + 1 := (by omega)); (have hx3 : wp0.heap.size ≤ wp1.heap.size + 1 := (by omega))) | (go_at_call 26; (with_reducible refine ((hi _).out).mono ?_); rintro e wi ⟨rfl, hbn⟩; obtain ⟨hcn, hfn⟩ := bcell hbn; (try simp only [World.size_drew, World.cell?_drew, World.frozen?_drew] at hcn hfn); have hsz := hbn.size; (try simp at hsz); (try have hsl := Nat.lt_of_succ_le hsz); (try have hz0 : w.heap.size < wi.heap.size := (by have := hbn.size; (try simp at this); omega)); (try have hz1 : w.heap.size + 1 < wi.heap.size := (by have := hbn.size; (try simp at this); omega)); (try have hz2 : wc.heap.size < wi.heap.size := (by have := hbn.size; (try simp at this); omega)); (try have hz3 : wp0.heap.size < wi.heap.size := (by have := hbn.size; (try simp at this); omega)); (try have hz4 : wp1.heap.size < wi.heap.size := (by have := hbn.size; (try simp at this); omega))))
      all_goals go_wp2_with fail
      all_goals (go_meet; exact ⟨rfl, (by repeat (first | assumption | exact Below.refl _ _ | (refine below_chain ?_ (by assumption) (by first | omega | (simp <;> omega) | simp)) | (refine Below.alloc ?_ (by first | omega | (simp <;> omega) | simp) _) | (apply below_drewN) | (apply below_drew) | (refine Below.setCell ?_ (by first | omega | (simp <;> omega) | simp) _)))⟩)
    case rest =>
      obtain ⟨rfl, kB⟩ := hcut
      have kS := kB.size
      go_wp2
      go_ret
      exact ⟨rfl, kB⟩
theorem walk (a0 b0 : Int) (w0 : (Lit.int .i64 a0).wf = true) (x0 : (Lit.int .i64 b0).wf = true) (a1 b1 : Int) (w1 : (Lit.int .i64 a1).wf = true) (x1 : (Lit.int .i64 b1).wf = true) (w : World) :
    Calls Try.prog 14 #[.agg #[.int .i64 a0, .int .i64 b0], .agg #[.int .i64 a1, .int .i64 b1]] w fun e w' => e = .returned (.bool true) ∧ Below w.heap.size w w' := by
  clear w0 x0 w1 x1
  exact walk_of a0 b0 a1 b1 _ w (fun w => Lib.hid (sGaps_any a0 b0 a1 b1 w)) (fun w => Lib.hid (iGaps_any a0 b0 a1 b1 w))

set_option maxRecDepth 100000 in
theorem lifted (os : Os) (started : os.Started) (H : Type) (enc : TypeId × Value → H) :
    ReturnsInHanded {} Try.checked os 14 .any (Rows.fnExactPointGapsSpec.pre6 enc Try.prog Try.f14 Rows.fnExactPointGapsRow.domain false) (Rows.fnExactPointGapsSpec.post enc Try.prog Try.f14 false true false false) := by
  refine returnsInHanded_of_change (C := Try.checked) own started (by kernel_rfl) Try.func14
    (ChangeSpec.witness6 (enc := enc) (C := Try.checked) false ⟨#[], #[.agg #[.int .i64 0, .int .i64 0], .agg #[.int .i64 0, .int .i64 0]], []⟩ 8 (by kernel_rfl) (by kernel_rfl) (by kernel_rfl) (by kernel_rfl)) ?_
  intro W base args ds gs before hval0 hW hcnd _
  have hval : ∀ (j : Nat) t v, Try.f14.params[j]? = some t → args[j]? = some v → Value.okWide Try.prog W .any base t v := hval0
  have hW' := hW
  obtain ⟨p, q, hA0, hV, rfl, hfz, hnd⟩ := hW
  have hA : DataW.TrodAll enc Try.prog W 0 (fun _ => true) true Try.f14.params.toList args.toList ds p := hA0
  rw [Try.params14] at hA hval
  obtain ⟨v0, vs0, d0, ds0, p0, q0, hargs, rfl, rfl, h0, r0⟩ := trodAll_cons hA
  obtain ⟨v1, vs1, d1, ds1, p1, q1, rfl, rfl, rfl, h1, r1⟩ := trodAll_cons r0
  obtain ⟨rfl, rfl, rfl⟩ := trodAll_nil r1
  obtain rfl : args = #[v0, v1] := by cases args; simp_all
  obtain ⟨rfl, rfl⟩ := trodVars_none hV
  obtain ⟨a0, b0, rfl, rfl, rfl, w0, x0, s0⟩ := open_two Try.underlying38 (by kernel_rfl) (by kernel_rfl) Try.underlying3 rfl rfl (hval 0 38 v0 rfl rfl) h0
  obtain ⟨a1, b1, rfl, rfl, rfl, w1, x1, s1⟩ := open_two Try.underlying38 (by kernel_rfl) (by kernel_rfl) Try.underlying3 rfl rfl (hval 1 38 v1 rfl rfl) h1
  clear hA0 hval0
  simp only [List.append_nil] at hW'
  refine (walk a0 b0 w0 x0 a1 b1 w1 x1 W).mono fun e W' ⟨he, hg⟩ => ?_
  subst he
  exact ⟨_, rfl, post_of_below (pa := []) (pv := []) hW' (fun _ _ _ => (trodAll_cons_mk (shut_bool Try.underlying4 _) trodAll_mk0)) (fun sp _ => (trodAll_cons_mk (s0 _ _) (trodAll_cons_mk (s1 _ _) trodAll_mk0))) (fun _ _ => rfl) rfl hg (ok_one (by kernel_rfl) rfl (okWide_bool_mk Try.underlying4 _))⟩

theorem over : Rows.fnExactPointGapsRow.holds Try.pinned (OpenSpec.ofChange Rows.fnExactPointGapsSpec) :=
  OpenClaim.holds_of_wide 14 Try.f14 rfl rfl rfl rfl rfl rfl rfl ⟨rfl, rfl, rfl, rfl, rfl⟩ rfl rfl rfl rfl rfl (by kernel_rfl) Try.func14 (by kernel_rfl)
    (of_decide_eq_true (by kernel_rfl)) (by unfold Func.isWrapper; first | (rw [if_pos (by decide +kernel)]; kernel_rfl) | (rw [if_neg (by decide +kernel)]; exact ⟨rfl, rfl⟩))
    (fun os started H enc _ => lifted os started H enc)

theorem proved : Rows.FnExactPointGapsSaid :=
  over
end Go.Proofs.Ytllpcbbomcmpbaa.fnExactPointGaps

