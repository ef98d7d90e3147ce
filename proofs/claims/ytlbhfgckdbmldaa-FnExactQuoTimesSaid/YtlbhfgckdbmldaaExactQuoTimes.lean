/-
  For every two quotients the law FnExactQuoTimes returns true: impl.QuoTimes answers the product as the reference model does, in every field. No condition: every four ints are taken.
-/
import Derived.Test.YtlbhfgckdbmldaaLaw
import Derived.Test.YtlbhfgckdbmldaaQh
import Derived.Deep.RegionHeld3
import Derived.Deep.DeepCutAuto
namespace Go.Proofs.Ytlbhfgckdbmldaa.fnExactQuoTimes
open Go.ChangeShapes Go.WideShapes Go.ChangeAt Go.RowKit
set_option linter.unusedVariables false

/-- what both regions of the law leave: the boxed arguments as they were, and the answer in a block of its own -/
def Kept (w wx : World) (a0 b0 a1 b1 : Int) : Prop := wx.cell? ⟨w.heap.size, 0, none⟩ = some (.int .i64 a0) ∧ wx.cell? ⟨w.heap.size, 1, none⟩ = some (.int .i64 b0) ∧ wx.cell? ⟨w.heap.size + 1, 0, none⟩ = some (.int .i64 a1) ∧ wx.cell? ⟨w.heap.size + 1, 1, none⟩ = some (.int .i64 b1) ∧ w.heap.size + 1 < wx.heap.size ∧ Below w.heap.size w wx
def Ans (wx : World) (B : Nat) (x y : Int) : Prop := wx.cell? ⟨B, 0, none⟩ = some (.int .i64 x) ∧ wx.cell? ⟨B, 1, none⟩ = some (.int .i64 y) ∧ B < wx.heap.size

theorem walk (a0 b0 : Int) (w0 : (Lit.int .i64 a0).wf = true) (x0 : (Lit.int .i64 b0).wf = true) (a1 b1 : Int) (w1 : (Lit.int .i64 a1).wf = true) (x1 : (Lit.int .i64 b1).wf = true) (w : World) :
    Calls Try.prog 11 #[.agg #[.int .i64 a0, .int .i64 b0], .agg #[.int .i64 a1, .int .i64 b1]] w fun e w' => e = .returned (.bool true) ∧ Below w.heap.size w w' := by
  obtain ⟨q1, q2⟩ := bounds_i64 w1
  clear w0 x0 w1 x1
  go_enter Try.func11, Try.ntmps11
  go_upto_region 1 with fail
  go_cut [5, 6] (fun s5 s6 wx => ∃ B : Nat, s5 = .pointer (some ⟨B, 0, none⟩) ∧ s6 = .bool (Quo.gOk (Quo.both a0 b0 a1 b1) (a0 * a1) (b0 * b1)) ∧ Ans wx B (Quo.gT (Quo.both a0 b0 a1 b1) (a0 * a1) (b0 * b1)) (Quo.gL (Quo.both a0 b0 a1 b1) (a0 * a1) (b0 * b1)) ∧ Kept w wx a0 b0 a1 b1)
  case first =>
    go_region_held3 (fun W => W.cell? ⟨w.heap.size, 0, none⟩ = some (.int .i64 a0) ∧ W.cell? ⟨w.heap.size, 1, none⟩ = some (.int .i64 b0) ∧ W.cell? ⟨w.heap.size + 1, 0, none⟩ = some (.int .i64 a1) ∧ W.cell? ⟨w.heap.size + 1, 1, none⟩ = some (.int .i64 b1)) (((try dsimp only); refine ⟨?_, ?_, ?_, ?_⟩ <;> (simp [*, go_sem]; done)))
      (first | (go_at_call 28; (with_reducible refine (toquo_any _ _ _).mono ?_); rintro e wn ⟨rfl, hbn⟩; obtain ⟨hcn, hfn⟩ := bcell hbn; (try simp only [World.size_drew, World.cell?_drew, World.frozen?_drew] at hcn hfn); have hsz := hbn.size; (try simp at hsz); (try have hsl := Nat.lt_of_succ_le hsz); (try have hz0 : w.heap.size < wn.heap.size := (by have := hbn.size; (try simp at this); omega)); (try have hz1 : w.heap.size + 1 < wn.heap.size := (by have := hbn.size; (try simp at this); omega)); (try have hz2 : w.heap.size + 1 + 1 < wn.heap.size := (by have := hbn.size; (try simp at this); omega))) | (go_at_call 23; (with_reducible refine (sTimes_any _ _ _ _ _).mono ?_); rintro e wn ⟨rfl, hbn⟩; obtain ⟨hcn, hfn⟩ := bcell hbn; (try simp only [World.size_drew, World.cell?_drew, World.frozen?_drew] at hcn hfn); have hsz := hbn.size; (try simp at hsz); (try have hsl := Nat.lt_of_succ_le hsz); (try have hz0 : w.heap.size < wn.heap.size := (by have := hbn.size; (try simp at this); omega)); (try have hz1 : w.heap.size + 1 < wn.heap.size := (by have := hbn.size; (try simp at this); omega)); (try have hz2 : w.heap.size + 1 + 1 < wn.heap.size := (by have := hbn.size; (try simp at this); omega))))
    all_goals go_wp2_with fail
    all_goals (go_meet; exact ⟨_, rfl, rfl, ⟨by simp [*, go_sem], by simp [*, go_sem], (by first | omega | (simp <;> omega) | simp)⟩, ⟨by simp [*, go_sem], by simp [*, go_sem], by simp [*, go_sem], by simp [*, go_sem], (by first | omega | (simp <;> omega) | simp), (by repeat (first | assumption | exact Below.refl _ _ | (refine below_chain ?_ (by assumption) (by first | omega | (simp <;> omega) | simp)) | (refine Below.alloc ?_ (by first | omega | (simp <;> omega) | simp) _) | (apply below_drewN) | (apply below_drew) | (refine Below.setCell ?_ (by first | omega | (simp <;> omega) | simp) _)))⟩⟩)
  case rest =>
    obtain ⟨B, rfl, rfl, ⟨r0, r1, rB⟩, k0, k1, k2, k3, kz, kB⟩ := hcut
    have kz' : w.heap.size < wc.heap.size := by omega
    have c1 := fun w => Lib.hid (iTimes_any a0 b0 a1 b1 w)
    go_upto_region 2 with fail
    go_cut [7, 8] (fun s7 s8 wx => ∃ C : Nat, s7 = .pointer (some ⟨C, 0, none⟩) ∧ s8 = .bool (Quo.gOk (Quo.both a0 b0 a1 b1) (a0 * a1) (b0 * b1)) ∧ Ans wx C (Quo.gT (Quo.both a0 b0 a1 b1) (a0 * a1) (b0 * b1)) (Quo.gL (Quo.both a0 b0 a1 b1) (a0 * a1) (b0 * b1)) ∧ Ans wx B (Quo.gT (Quo.both a0 b0 a1 b1) (a0 * a1) (b0 * b1)) (Quo.gL (Quo.both a0 b0 a1 b1) (a0 * a1) (b0 * b1)) ∧ Below w.heap.size w wx)
    case first =>
      go_region_held3 (fun W => W.cell? ⟨w.heap.size, 0, none⟩ = some (.int .i64 a0) ∧ W.cell? ⟨w.heap.size, 1, none⟩ = some (.int .i64 b0) ∧ W.cell? ⟨w.heap.size + 1, 0, none⟩ = some (.int .i64 a1) ∧ W.cell? ⟨w.heap.size + 1, 1, none⟩ = some (.int .i64 b1)) (((try dsimp only); refine ⟨?_, ?_, ?_, ?_⟩ <;> (simp [*, go_sem]; done)))
        (first | (go_at_call 28; (with_reducible refine (toquo_any _ _ _).mono ?_); rintro e wn ⟨rfl, hbn⟩; obtain ⟨hcn, hfn⟩ := bcell hbn; (try simp only [World.size_drew, World.cell?_drew, World.frozen?_drew] at hcn hfn); have hsz := hbn.size; (try simp at hsz); (try have hsl := Nat.lt_of_succ_le hsz); (try have hz0 : w.heap.size < wn.heap.size := (by have := hbn.size; (try simp at this); omega)); (try have hz1 : w.heap.size + 1 < wn.heap.size := (by have := hbn.size; (try simp at this); omega)); (try have hz2 : B < wn.heap.size := (by have := hbn.size; (try simp at this); omega)); (try have hz3 : wc.heap.size < wn.heap.size := (by have := hbn.size; (try simp at this); omega))) | (go_at_call 22; (with_reducible refine ((c1 _).out).mono ?_); rintro e wn ⟨rfl, hbn⟩; obtain ⟨hcn, hfn⟩ := bcell hbn; (try simp only [World.size_drew, World.cell?_drew, World.frozen?_drew] at hcn hfn); have hsz := hbn.size; (try simp at hsz); (try have hsl := Nat.lt_of_succ_le hsz); (try have hz0 : w.heap.size < wn.heap.size := (by have := hbn.size; (try simp at this); omega)); (try have hz1 : w.heap.size + 1 < wn.heap.size := (by have := hbn.size; (try simp at this); omega)); (try have hz2 : B < wn.heap.size := (by have := hbn.size; (try simp at this); omega)); (try have hz3 : wc.heap.size < wn.heap.size := (by have := hbn.size; (try simp at this); omega))))
      all_goals go_wp2_with fail
      all_goals (go_meet; exact ⟨_, rfl, rfl, ⟨by simp [*, go_sem], by simp [*, go_sem], (by first | omega | (simp <;> omega) | simp)⟩, ⟨by simp [*, go_sem], by simp [*, go_sem], (by first | omega | (simp <;> omega) | simp)⟩, (by repeat (first | assumption | exact Below.refl _ _ | (refine below_chain ?_ (by assumption) (by first | omega | (simp <;> omega) | simp)) | (refine Below.alloc ?_ (by first | omega | (simp <;> omega) | simp) _) | (apply below_drewN) | (apply below_drew) | (refine Below.setCell ?_ (by first | omega | (simp <;> omega) | simp) _)))⟩)
    case rest =>
      obtain ⟨C, rfl, rfl, ⟨t0, t1, tB⟩, ⟨r0, r1, rB⟩, kB⟩ := hcut
      have kS := kB.size
      go_wp2_with ((go_at_call 29; (with_reducible refine (eq_any _ _ _).mono ?_); rintro e wn ⟨rfl, hbn⟩; obtain ⟨hcn, hfn⟩ := bcell hbn; (try simp only [World.size_drew, World.cell?_drew, World.frozen?_drew] at hcn hfn); have hsz := hbn.size; (try simp at hsz); (try have hsl := Nat.lt_of_succ_le hsz)))
      go_ret
      exact ⟨rfl, (by repeat (first | assumption | exact Below.refl _ _ | (refine below_chain ?_ (by assumption) (by first | omega | (simp <;> omega) | simp)) | (refine Below.alloc ?_ (by first | omega | (simp <;> omega) | simp) _) | (apply below_drewN) | (apply below_drew) | (refine Below.setCell ?_ (by first | omega | (simp <;> omega) | simp) _)))⟩

set_option maxRecDepth 100000 in
theorem lifted (os : Os) (started : os.Started) (H : Type) (enc : TypeId × Value → H) :
    ReturnsInHanded {} Try.checked os 11 .any (Rows.fnExactQuoTimesSpec.pre6 enc Try.prog Try.f11 Rows.fnExactQuoTimesRow.domain false) (Rows.fnExactQuoTimesSpec.post enc Try.prog Try.f11 false true false false) := by
  refine returnsInHanded_of_change (C := Try.checked) own started (by kernel_rfl) Try.func11
    (ChangeSpec.witness6 (enc := enc) (C := Try.checked) false ⟨#[], #[.agg #[.int .i64 0, .int .i64 0], .agg #[.int .i64 0, .int .i64 0]], []⟩ 8 (by kernel_rfl) (by kernel_rfl) (by kernel_rfl) (by kernel_rfl)) ?_
  intro W base args ds gs before hval0 hW hcnd _
  have hval : ∀ (j : Nat) t v, Try.f11.params[j]? = some t → args[j]? = some v → Value.okWide Try.prog W .any base t v := hval0
  have hW' := hW
  obtain ⟨p, q, hA0, hV, rfl, hfz, hnd⟩ := hW
  have hA : DataW.TrodAll enc Try.prog W 0 (fun _ => true) true Try.f11.params.toList args.toList ds p := hA0
  rw [Try.params11] at hA hval
  obtain ⟨v0, vs0, d0, ds0, p0, q0, hargs, rfl, rfl, h0, r0⟩ := trodAll_cons hA
  obtain ⟨v1, vs1, d1, ds1, p1, q1, rfl, rfl, rfl, h1, r1⟩ := trodAll_cons r0
  obtain ⟨rfl, rfl, rfl⟩ := trodAll_nil r1
  obtain rfl : args = #[v0, v1] := by cases args; simp_all
  obtain ⟨rfl, rfl⟩ := trodVars_none hV
  obtain ⟨a0, b0, rfl, rfl, rfl, w0, x0, s0⟩ := open_two Try.underlying36 (by kernel_rfl) (by kernel_rfl) Try.underlying3 rfl rfl (hval 0 36 v0 rfl rfl) h0
  obtain ⟨a1, b1, rfl, rfl, rfl, w1, x1, s1⟩ := open_two Try.underlying36 (by kernel_rfl) (by kernel_rfl) Try.underlying3 rfl rfl (hval 1 36 v1 rfl rfl) h1
  clear hA0 hval0
  simp only [List.append_nil] at hW'
  refine (walk a0 b0 w0 x0 a1 b1 w1 x1 W).mono fun e W' ⟨he, hg⟩ => ?_
  subst he
  exact ⟨_, rfl, post_of_below (pa := []) (pv := []) hW' (fun _ _ _ => (trodAll_cons_mk (shut_bool Try.underlying4 _) trodAll_mk0)) (fun sp _ => (trodAll_cons_mk (s0 _ _) (trodAll_cons_mk (s1 _ _) trodAll_mk0))) (fun _ _ => rfl) rfl hg (ok_one (by kernel_rfl) rfl (okWide_bool_mk Try.underlying4 _))⟩

theorem over : Rows.fnExactQuoTimesRow.holds Try.pinned (OpenSpec.ofChange Rows.fnExactQuoTimesSpec) :=
  OpenClaim.holds_of_wide 11 Try.f11 rfl rfl rfl rfl rfl rfl rfl ⟨rfl, rfl, rfl, rfl, rfl⟩ rfl rfl rfl rfl rfl (by kernel_rfl) Try.func11 (by kernel_rfl)
    (of_decide_eq_true (by kernel_rfl)) (by unfold Func.isWrapper; first | (rw [if_pos (by decide +kernel)]; kernel_rfl) | (rw [if_neg (by decide +kernel)]; exact ⟨rfl, rfl⟩))
    (fun os started H enc _ => lifted os started H enc)

theorem proved : Rows.FnExactQuoTimesSaid :=
  over
end Go.Proofs.Ytlbhfgckdbmldaa.fnExactQuoTimes

