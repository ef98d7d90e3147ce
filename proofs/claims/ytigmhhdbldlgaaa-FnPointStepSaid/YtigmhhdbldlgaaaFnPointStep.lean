/-
  For every code the law FnPointStep returns true: a step leads to the second point and back, and the square of the distance is that of the step. No condition: every list of bytes is taken.
-/
import Derived.Test.YtigmhhdbldlgaaaDPts
import Derived.Test.YtigmhhdbldlgaaaCode
import Derived.Test.YtigmhhdbldlgaaaPv
import Derived.Test.YtigmhhdbldlgaaaPw
import Derived.Test.YtigmhhdbldlgaaaRegB
namespace Go.Proofs.Ytigmhhdbldlgaaa.fnPointStep
open Go.ChangeShapes Go.WideShapes Go.ChangeAt Go.RowKit
set_option linter.unusedVariables false

theorem both_mk {a b c d : Int} (h1 : Pt.pv a b = true) (h2 : Pt.pv c d = true) : both a b c d = true := by unfold both; simp [h1, h2]
theorem far_back (a b c d : Int) : Pt.dt (a - c) (b - d) (a - c) (b - d) = (c - a) * (c - a) + (d - b) * (d - b) := by unfold Pt.dt; grind
set_option maxHeartbeats 4000000 in
set_option maxRecDepth 100000 in
theorem walk (len cap : Nat) (p : Option Addr) (w : World) (hl : len ≤ 1048576) (h : Hid (Code' w (.slice p len cap))) :
    Calls Try.prog 3 #[.slice p len cap] w fun e w' => e = .returned (.bool true) ∧ Below w.heap.size w w' := by
  have hl' : ¬ (1048576 : Int) < (len : Int) := by omega
  go_enter Try.func3, Try.ntmps3
  go_wp2_with (go_at_call 17; (with_reducible refine (drawStep_any _ _ h).mono ?_); rintro e wd ⟨a, b, c, d, -, -, rfl, hbd⟩; obtain ⟨hcn, hfn⟩ := bcell hbd; have hsd := hbd.size)
  by_cases h3 : both a b c d = true
  · obtain ⟨h1, h2⟩ := both_true h3
    obtain ⟨p1, p2, p3, p4⟩ := Pt.pv_true h1
    obtain ⟨p5, p6, p7, p8⟩ := Pt.pv_true h2
    have k1 := fun w => Lib.hid (iStep_yes a b c d w h3)
    have k2 := fun w => Lib.hid (sStep_any a b c d w)
    rw [h3] at k2
    simp only [if_true] at k2
    have e1 : a + (c - a) = c := by omega
    have e2 : b + (d - b) = d := by omega
    have hm : mvOk a b (c - a) (d - b) = true := by unfold mvOk; rw [e1, e2, h1, h2, Pt.sv_of h1 h2]; rfl
    have k3 := fun w => Lib.hid (iMove_any a b (c - a) (d - b) w)
    rw [hm, e1, e2] at k3
    simp only [if_true] at k3
    have k4 := fun w => Lib.hid (iStep_yes c d a b w (both_mk h2 h1))
    have k5 := fun w => Lib.hid (iFar_yes a b c d w h3)
    have k6 := fun w => Lib.hid (iFar_yes c d a b w (both_mk h2 h1))
    rw [far_back] at k6
    rw [show Pt.dt (c - a) (d - b) (c - a) (d - b) = (c - a) * (c - a) + (d - b) * (d - b) from rfl] at k5
    obtain ⟨r1, r2⟩ := Pt.mul_bd (show -20000 ≤ c - a by omega) (show c - a ≤ 20000 by omega) (show -20000 ≤ c - a by omega) (show c - a ≤ 20000 by omega)
    obtain ⟨s1, s2⟩ := Pt.mul_bd (show -20000 ≤ d - b by omega) (show d - b ≤ 20000 by omega) (show -20000 ≤ d - b by omega) (show d - b ≤ 20000 by omega)
    have b1 : (a - c == 0 - (c - a)) = true := by simp; omega
    have b3 : (a - c == -(c - a)) = true := by simp; omega
    have b4 : (b - d == -(d - b)) = true := by simp; omega
    have b2 : (b - d == 0 - (d - b)) = true := by simp; omega
    clear h1 h2 h3 e1 e2 hm
    go_wp2_with (first | (go_at_call 18; (with_reducible refine ((k1 _).out).mono ?_); rintro e w1 ⟨rfl, hbn⟩; obtain ⟨hcn, hfn⟩ := bcell hbn; (try simp only [World.size_drew, World.cell?_drew, World.frozen?_drew, World.heap_drewN, World.cell?_drewN, World.frozen?_drewN] at hcn hfn); have hsz := hbn.size; (try simp at hsz); (try have hsl := Nat.lt_of_succ_le hsz); (try have hz0 : wd.heap.size < w1.heap.size := (by have := hbn.size; (try simp at this); omega)); (try have hz1 : wd.heap.size + 1 < w1.heap.size := (by have := hbn.size; (try simp at this); omega))) | (go_at_call 19; (with_reducible refine ((k2 _).out).mono ?_); rintro e w2 ⟨rfl, hbn⟩; obtain ⟨hcn, hfn⟩ := bcell hbn; (try simp only [World.size_drew, World.cell?_drew, World.frozen?_drew, World.heap_drewN, World.cell?_drewN, World.frozen?_drewN] at hcn hfn); have hsz := hbn.size; (try simp at hsz); (try have hsl := Nat.lt_of_succ_le hsz); (try have hz0 : wd.heap.size < w2.heap.size := (by have := hbn.size; (try simp at this); omega)); (try have hz1 : wd.heap.size + 1 < w2.heap.size := (by have := hbn.size; (try simp at this); omega)); (try have hz2 : w1.heap.size < w2.heap.size := (by have := hbn.size; (try simp at this); omega))) | (go_at_call 20; (with_reducible refine ((k3 _).out).mono ?_); rintro e w3 ⟨rfl, hbn⟩; obtain ⟨hcn, hfn⟩ := bcell hbn; (try simp only [World.size_drew, World.cell?_drew, World.frozen?_drew, World.heap_drewN, World.cell?_drewN, World.frozen?_drewN] at hcn hfn); have hsz := hbn.size; (try simp at hsz); (try have hsl := Nat.lt_of_succ_le hsz); (try have hz0 : wd.heap.size < w3.heap.size := (by have := hbn.size; (try simp at this); omega)); (try have hz1 : wd.heap.size + 1 < w3.heap.size := (by have := hbn.size; (try simp at this); omega)); (try have hz2 : w1.heap.size < w3.heap.size := (by have := hbn.size; (try simp at this); omega)); (try have hz3 : w2.heap.size < w3.heap.size := (by have := hbn.size; (try simp at this); omega))) | (go_at_call 18; (with_reducible refine ((k4 _).out).mono ?_); rintro e w4 ⟨rfl, hbn⟩; obtain ⟨hcn, hfn⟩ := bcell hbn; (try simp only [World.size_drew, World.cell?_drew, World.frozen?_drew, World.heap_drewN, World.cell?_drewN, World.frozen?_drewN] at hcn hfn); have hsz := hbn.size; (try simp at hsz); (try have hsl := Nat.lt_of_succ_le hsz); (try have hz0 : wd.heap.size < w4.heap.size := (by have := hbn.size; (try simp at this); omega)); (try have hz1 : wd.heap.size + 1 < w4.heap.size := (by have := hbn.size; (try simp at this); omega)); (try have hz2 : w1.heap.size < w4.heap.size := (by have := hbn.size; (try simp at this); omega)); (try have hz3 : w2.heap.size < w4.heap.size := (by have := hbn.size; (try simp at this); omega)); (try have hz4 : w3.heap.size < w4.heap.size := (by have := hbn.size; (try simp at this); omega))))
    (refine wp_region_grows (by kernel_rfl) (by kernel_rfl) ?_; intro W_wg hWc_wg hWs_wg hWe_wg; (repeat (go_big_quiet_step (first | (go_at_call 21; with_reducible exact Ext.call ((k5 _).out)) | (go_at_call 21; with_reducible exact Ext.call ((k6 _).out))))); with_reducible refine wpQuiet_nil ?_; clear hWe_wg hWs_wg hWc_wg W_wg; intro wg hb_wg; obtain ⟨hc_wg, hf_wg⟩ := bcell hb_wg; (try simp only [World.size_drew, World.cell?_drew, World.frozen?_drew, World.heap_drewN, World.cell?_drewN, World.frozen?_drewN] at hc_wg hf_wg); have hs_wg := hb_wg.size; (try simp at hs_wg); (try have hz_wg0 : wd.heap.size < wg.heap.size := (by have := hb_wg.size; (try simp at this); omega)))
    go_wp2_with fail
    go_ret
    exact ⟨rfl, (by repeat (first | with_reducible assumption | with_reducible exact Below.refl _ _ | (with_reducible refine below_chain ?_ (by with_reducible assumption) (by first | omega | (simp <;> omega) | simp)) | (with_reducible refine below_gb ?_ (by with_reducible assumption) (by first | omega | (simp <;> omega) | simp) (by first | omega | (simp <;> omega) | simp)) | (with_reducible refine Below.alloc ?_ (by first | omega | (simp <;> omega) | simp) _) | (with_reducible refine below_drewN ?_ _) | (with_reducible refine below_drew ?_) | (with_reducible refine Below.setCell ?_ (by first | omega | (simp <;> omega) | simp) _)))⟩
  · have h3' : both a b c d = false := by simpa using h3
    have k1 := fun w => Lib.hid (iStep_no a b c d w h3')
    have k2 := fun w => Lib.hid (sStep_any a b c d w)
    rw [h3'] at k2
    simp only [Bool.false_eq_true, if_false] at k2
    clear h3 h3'
    go_wp2_with (first | (go_at_call 18; (with_reducible refine ((k1 _).out).mono ?_); rintro e w1 ⟨rfl, hbn⟩; obtain ⟨hcn, hfn⟩ := bcell hbn; (try simp only [World.size_drew, World.cell?_drew, World.frozen?_drew, World.heap_drewN, World.cell?_drewN, World.frozen?_drewN] at hcn hfn); have hsz := hbn.size; (try simp at hsz); (try have hsl := Nat.lt_of_succ_le hsz); (try have hz0 : wd.heap.size < w1.heap.size := (by have := hbn.size; (try simp at this); omega)); (try have hz1 : wd.heap.size + 1 < w1.heap.size := (by have := hbn.size; (try simp at this); omega))) | (go_at_call 19; (with_reducible refine ((k2 _).out).mono ?_); rintro e w2 ⟨rfl, hbn⟩; obtain ⟨hcn, hfn⟩ := bcell hbn; (try simp only [World.size_drew, World.cell?_drew, World.frozen?_drew, World.heap_drewN, World.cell?_drewN, World.frozen?_drewN] at hcn hfn); have hsz := hbn.size; (try simp at hsz); (try have hsl := Nat.lt_of_succ_le hsz); (try have hz0 : wd.heap.size < w2.heap.size := (by have := hbn.size; (try simp at this); omega)); (try have hz1 : wd.heap.size + 1 < w2.heap.size := (by have := hbn.size; (try simp at this); omega)); (try have hz2 : w1.heap.size < w2.heap.size := (by have := hbn.size; (try simp at this); omega))))
    go_ret
    exact ⟨rfl, (by repeat (first | with_reducible assumption | with_reducible exact Below.refl _ _ | (with_reducible refine below_chain ?_ (by with_reducible assumption) (by first | omega | (simp <;> omega) | simp)) | (with_reducible refine below_gb ?_ (by with_reducible assumption) (by first | omega | (simp <;> omega) | simp) (by first | omega | (simp <;> omega) | simp)) | (with_reducible refine Below.alloc ?_ (by first | omega | (simp <;> omega) | simp) _) | (with_reducible refine below_drewN ?_ _) | (with_reducible refine below_drew ?_) | (with_reducible refine Below.setCell ?_ (by first | omega | (simp <;> omega) | simp) _)))⟩

theorem walk_long (len cap : Nat) (p : Option Addr) (w : World) (hl : 1048576 < len) :
    Calls Try.prog 3 #[.slice p len cap] w fun e w' => e = .returned (.bool true) ∧ Below w.heap.size w w' := by
  have hl' : (1048576 : Int) < (len : Int) := by omega
  go_enter Try.func3, Try.ntmps3
  go_wp2
  go_ret
  exact ⟨rfl, Below.refl _ _⟩

set_option maxRecDepth 100000 in
theorem lifted (os : Os) (started : os.Started) (H : Type) (enc : TypeId × Value → H) :
    ReturnsInHanded {} Try.checked os 3 .any (Rows.fnPointStepSpec.pre6 enc Try.prog Try.f3 Rows.fnPointStepRow.domain false) (Rows.fnPointStepSpec.post enc Try.prog Try.f3 false true false false) := by
  refine returnsInHanded_of_change (C := Try.checked) own started (by kernel_rfl) Try.func3
    (ChangeSpec.witness6 (enc := enc) (C := Try.checked) false ⟨#[], #[.slice none 0 0], []⟩ 8 (by kernel_rfl) (by kernel_rfl) (by kernel_rfl) (by kernel_rfl)) ?_
  intro W base args ds gs before hval0 hW hcnd _
  have hval : ∀ (j : Nat) t v, Try.f3.params[j]? = some t → args[j]? = some v → Value.okWide Try.prog W .any base t v := hval0
  have hW' := hW
  obtain ⟨p, q, hA0, hV, rfl, hfz, hnd⟩ := hW
  have hA : DataW.TrodAll enc Try.prog W 0 (fun _ => true) true Try.f3.params.toList args.toList ds p := hA0
  rw [Try.params3] at hA hval
  obtain ⟨v0, vs0, d0, ds0, p0, q0, hargs, rfl, rfl, h0, r0⟩ := trodAll_cons hA
  obtain ⟨rfl, rfl, rfl⟩ := trodAll_nil r0
  obtain rfl : args = #[v0] := by cases args; simp_all
  obtain ⟨rfl, rfl⟩ := trodVars_none hV
  obtain ⟨a0, len0, cap0, rfl⟩ := okWide_slice Try.underlying22 (hval 0 22 v0 rfl rfl)
  have k0 := h0
  have lt0 : ∀ x ∈ p0, x.block < W.heap.size := by obtain ⟨m, hm⟩ := k0; exact DataW.trod_lt m _ _ _ hm
  obtain ⟨z0, w0⟩ : ∃ zs, IsRow .u8 W a0 len0 cap0 zs := by
    obtain ⟨fuel, hf⟩ := h0
    rcases open_ints Try.underlying22 Try.underlying5 (by kernel_rfl) hf with ⟨hcs, _⟩ | ⟨x, l, c, zs, hcs, _, hl, hm, hz, _, hcell, hwz⟩
    · simp [Value.cells] at hcs
      obtain ⟨rfl, rfl, rfl⟩ := hcs
      exact ⟨[], .inl ⟨rfl, rfl, rfl, rfl⟩⟩
    · simp [Value.cells] at hcs
      obtain ⟨rfl, rfl, rfl⟩ := hcs
      exact ⟨zs, .inr ⟨_, rfl, hl, hm, by simpa using hz, hcell, hwz⟩⟩
  clear hA0 hval0
  have hw : Calls Try.prog 3 #[.slice a0 len0 cap0] W fun e w' => e = .returned (.bool true) ∧ Below W.heap.size W w' := by
    by_cases hl : len0 ≤ 1048576
    · exact walk len0 cap0 a0 W hl (Lib.hid (code_of_row w0 hl))
    · exact walk_long len0 cap0 a0 W (by omega)
  refine hw.mono fun e W' ⟨he, bel⟩ => ?_
  subst he
  exact ⟨_, rfl, _, _, _, [], _, [], hW', trodAll_mk1 (shut_bool Try.underlying4 _), (trodAll_cons_mk (Below.trod laidOut (by kernel_rfl) (of_decide_eq_true (by kernel_rfl)) k0 bel lt0) trodAll_mk0), rfl, bel.frame _, fun h => by cases h⟩

theorem over : Rows.fnPointStepRow.holds Try.pinned (OpenSpec.ofChange Rows.fnPointStepSpec) :=
  OpenClaim.holds_of_wide 3 Try.f3 rfl rfl rfl rfl rfl rfl rfl ⟨rfl, rfl, rfl, rfl, rfl⟩ rfl rfl rfl rfl rfl (by kernel_rfl) Try.func3 (by kernel_rfl)
    (of_decide_eq_true (by kernel_rfl)) (by unfold Func.isWrapper; first | (rw [if_pos (by decide +kernel)]; kernel_rfl) | (rw [if_neg (by decide +kernel)]; exact ⟨rfl, rfl⟩))
    (fun os started H enc _ => lifted os started H enc)

theorem proved : Rows.FnPointStepSaid := over
end Go.Proofs.Ytigmhhdbldlgaaa.fnPointStep

