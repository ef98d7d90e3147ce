/-
  For every code the law FnPointOn returns true: a point between two others lies on their line, splits the whole points and is no farther than the end. No condition: every list of bytes is taken.
-/
import Derived.Test.YtigmhhdbldlgaaaDPt4
import Derived.Test.YtigmhhdbldlgaaaCode
import Derived.Test.YtigmhhdbldlgaaaPy
import Derived.Test.YtigmhhdbldlgaaaPv
import Derived.Test.YtigmhhdbldlgaaaPCount
import Derived.Test.YtigmhhdbldlgaaaRegB
namespace Go.Proofs.Ytigmhhdbldlgaaa.fnPointOn
open Go.ChangeShapes Go.WideShapes Go.ChangeAt Go.RowKit
set_option linter.unusedVariables false

theorem both_mk {a b c d : Int} (h1 : Pt.pv a b = true) (h2 : Pt.pv c d = true) : both a b c d = true := by unfold both; simp [h1, h2]
theorem three_mk {a b c d u v : Int} (h1 : Pt.pv a b = true) (h2 : Pt.pv c d = true) (h3 : Pt.pv u v = true) : three a b c d u v = true := by unfold three; simp [h1, h2, h3]
theorem on_cr {a b c d u v : Int} (h : Pt.onB a b c d u v = true) : Pt.cr (c - a) (d - b) (u - a) (v - b) = 0 := by
  unfold Pt.onB at h
  simp only [decide_eq_true_eq] at h
  exact h.1
theorem gaps_is (a b c d g : Int) (w : World) (h1 : Pt.pv a b = true) (h2 : Pt.pv c d = true) (hg : (Int.gcd (c - a) (d - b) : Int) = g) :
    Calls Try.prog 26 #[.agg #[.int .i64 a, .int .i64 b], .agg #[.int .i64 c, .int .i64 d]] w fun e w' => e = .returned (.int .i64 g) ∧ Below w.heap.size w w' := by
  rw [← hg]; exact iGaps_yes a b c d w (both_mk h1 h2)
theorem far_is (a b c d f : Int) (w : World) (h1 : Pt.pv a b = true) (h2 : Pt.pv c d = true) (hf : Pt.dt (c - a) (d - b) (c - a) (d - b) = f) :
    Calls Try.prog 21 #[.agg #[.int .i64 a, .int .i64 b], .agg #[.int .i64 c, .int .i64 d]] w fun e w' => e = .returned (.int .i64 f) ∧ Below w.heap.size w w' := by
  rw [← hf]; exact iFar_yes a b c d w (both_mk h1 h2)
theorem gcd_bd {x y : Int} (h : Pt.sv x y = true) : (0 : Int) ≤ (Int.gcd x y : Int) ∧ (Int.gcd x y : Int) ≤ 20000 := by
  obtain ⟨h1, h2, h3, h4⟩ := Pt.sv_true h
  refine ⟨by omega, ?_⟩
  by_cases hx : x = 0
  · subst hx; simp; omega
  · have := Int.gcd_le_natAbs_left (a := x) y hx
    omega
set_option maxHeartbeats 4000000 in
set_option maxRecDepth 100000 in
theorem walk (len cap : Nat) (p : Option Addr) (w : World) (hl : len ≤ 1048576) (h : Hid (Code' w (.slice p len cap))) :
    Calls Try.prog 4 #[.slice p len cap] w fun e w' => e = .returned (.bool true) ∧ Below w.heap.size w w' := by
  have hl' : ¬ (1048576 : Int) < (len : Int) := by omega
  go_enter Try.func4, Try.ntmps4
  go_wp2_with (go_at_call 22; (with_reducible refine (drawOn_any _ _ h).mono ?_); rintro e wd ⟨a, b, c, d, u, v, rfl, hbd⟩; obtain ⟨hcn, hfn⟩ := bcell hbd; have hsd := hbd.size)
  have k1 := fun w => Lib.hid (iOn_any a b c d u v w)
  have k2 := fun w => Lib.hid (sPOn_any a b c d u v w)
  by_cases h3 : onV a b c d u v = true
  · rw [h3] at k1 k2
    have h3' := h3
    unfold onV at h3'
    rw [Bool.and_eq_true] at h3'
    obtain ⟨h4, h5⟩ := h3'
    obtain ⟨p1, p2, p3⟩ := three_true h4
    obtain ⟨g1, e1⟩ : ∃ g : Int, (Int.gcd (u - a) (v - b) : Int) = g := ⟨_, rfl⟩
    obtain ⟨g2, e2⟩ : ∃ g : Int, (Int.gcd (c - u) (d - v) : Int) = g := ⟨_, rfl⟩
    obtain ⟨g3, e3⟩ : ∃ g : Int, (Int.gcd (c - a) (d - b) : Int) = g := ⟨_, rfl⟩
    obtain ⟨f1, e4⟩ : ∃ f : Int, Pt.dt (u - a) (v - b) (u - a) (v - b) = f := ⟨_, rfl⟩
    obtain ⟨f2, e5⟩ : ∃ f : Int, Pt.dt (c - a) (d - b) (c - a) (d - b) = f := ⟨_, rfl⟩
    have hsp := Pt.on_split h5
    have hnr := Pt.on_near h5
    rw [e1, e2, e3] at hsp
    rw [e4, e5] at hnr
    have d1 := gcd_bd (Pt.sv_of p1 p3)
    have d2 := gcd_bd (Pt.sv_of p3 p2)
    rw [e1] at d1
    rw [e2] at d2
    obtain ⟨d1a, d1b⟩ := d1
    obtain ⟨d2a, d2b⟩ := d2
    have hB : (g1 + g2 == g3) = true := by simpa using hsp
    have hbk : onV c d a b u v = true := by
      unfold onV
      rw [three_mk p2 p1 p3, ← Pt.on_back, h5]; rfl
    have k3 := fun w => Lib.hid (iSide_yes a b c d u v 0 w h4 (by rw [on_cr h5]; rfl))
    have k4 := fun w => Lib.hid (iOn_any c d a b u v w)
    rw [hbk] at k4
    have k5 := fun w => Lib.hid (gaps_is a b u v g1 w p1 p3 e1)
    have k6 := fun w => Lib.hid (gaps_is u v c d g2 w p3 p2 e2)
    have k7 := fun w => Lib.hid (gaps_is a b c d g3 w p1 p2 e3)
    have k8 := fun w => Lib.hid (far_is a b u v f1 w p1 p3 e4)
    have k9 := fun w => Lib.hid (far_is a b c d f2 w p1 p2 e5)
    clear h3 h4 h5 p1 p2 p3 e1 e2 e3 e4 e5 hsp hbk
    go_wp2_with (first | (go_at_call 23; (with_reducible refine ((k1 _).out).mono ?_); rintro e w1 ⟨rfl, hbn⟩; obtain ⟨hcn, hfn⟩ := bcell hbn; (try simp only [World.size_drew, World.cell?_drew, World.frozen?_drew, World.heap_drewN, World.cell?_drewN, World.frozen?_drewN] at hcn hfn); have hsz := hbn.size; (try simp at hsz); (try have hsl := Nat.lt_of_succ_le hsz); (try have hz0 : wd.heap.size < w1.heap.size := (by have := hbn.size; (try simp at this); omega)); (try have hz1 : wd.heap.size + 1 < w1.heap.size := (by have := hbn.size; (try simp at this); omega)); (try have hz2 : wd.heap.size + 1 + 1 < w1.heap.size := (by have := hbn.size; (try simp at this); omega))) | (go_at_call 24; (with_reducible refine ((k2 _).out).mono ?_); rintro e w2 ⟨rfl, hbn⟩; obtain ⟨hcn, hfn⟩ := bcell hbn; (try simp only [World.size_drew, World.cell?_drew, World.frozen?_drew, World.heap_drewN, World.cell?_drewN, World.frozen?_drewN] at hcn hfn); have hsz := hbn.size; (try simp at hsz); (try have hsl := Nat.lt_of_succ_le hsz); (try have hz0 : wd.heap.size < w2.heap.size := (by have := hbn.size; (try simp at this); omega)); (try have hz1 : wd.heap.size + 1 < w2.heap.size := (by have := hbn.size; (try simp at this); omega)); (try have hz2 : wd.heap.size + 1 + 1 < w2.heap.size := (by have := hbn.size; (try simp at this); omega)); (try have hz3 : w1.heap.size < w2.heap.size := (by have := hbn.size; (try simp at this); omega))) | (go_at_call 25; (with_reducible refine ((k3 _).out).mono ?_); rintro e w3 ⟨rfl, hbn⟩; obtain ⟨hcn, hfn⟩ := bcell hbn; (try simp only [World.size_drew, World.cell?_drew, World.frozen?_drew, World.heap_drewN, World.cell?_drewN, World.frozen?_drewN] at hcn hfn); have hsz := hbn.size; (try simp at hsz); (try have hsl := Nat.lt_of_succ_le hsz); (try have hz0 : wd.heap.size < w3.heap.size := (by have := hbn.size; (try simp at this); omega)); (try have hz1 : wd.heap.size + 1 < w3.heap.size := (by have := hbn.size; (try simp at this); omega)); (try have hz2 : wd.heap.size + 1 + 1 < w3.heap.size := (by have := hbn.size; (try simp at this); omega)); (try have hz3 : w1.heap.size < w3.heap.size := (by have := hbn.size; (try simp at this); omega)); (try have hz4 : w2.heap.size < w3.heap.size := (by have := hbn.size; (try simp at this); omega))))
    (refine wp_region_grows (by kernel_rfl) (by kernel_rfl) ?_; intro W_wg hWc_wg hWs_wg hWe_wg; (repeat (go_big_quiet_step (first | (go_at_call 23; with_reducible exact Ext.call ((k4 _).out)) | (go_at_call 26; with_reducible exact Ext.call ((k5 _).out)) | (go_at_call 26; with_reducible exact Ext.call ((k6 _).out)) | (go_at_call 26; with_reducible exact Ext.call ((k7 _).out)) | (go_at_call 21; with_reducible exact Ext.call ((k8 _).out)) | (go_at_call 21; with_reducible exact Ext.call ((k9 _).out))))); with_reducible refine wpQuiet_nil ?_; clear hWe_wg hWs_wg hWc_wg W_wg; intro wg hb_wg; obtain ⟨hc_wg, hf_wg⟩ := bcell hb_wg; (try simp only [World.size_drew, World.cell?_drew, World.frozen?_drew, World.heap_drewN, World.cell?_drewN, World.frozen?_drewN] at hc_wg hf_wg); have hs_wg := hb_wg.size; (try simp at hs_wg); (try have hz_wg0 : wd.heap.size < wg.heap.size := (by have := hb_wg.size; (try simp at this); omega)))
    go_wp2_with fail
    go_ret
    exact ⟨rfl, (by repeat (first | with_reducible assumption | with_reducible exact Below.refl _ _ | (with_reducible refine below_chain ?_ (by with_reducible assumption) (by first | omega | (simp <;> omega) | simp)) | (with_reducible refine below_gb ?_ (by with_reducible assumption) (by first | omega | (simp <;> omega) | simp) (by first | omega | (simp <;> omega) | simp)) | (with_reducible refine Below.alloc ?_ (by first | omega | (simp <;> omega) | simp) _) | (with_reducible refine below_drewN ?_ _) | (with_reducible refine below_drew ?_) | (with_reducible refine Below.setCell ?_ (by first | omega | (simp <;> omega) | simp) _)))⟩
  · have h3' : onV a b c d u v = false := by simpa using h3
    rw [h3'] at k1 k2
    clear h3 h3'
    go_wp2_with (first | (go_at_call 23; (with_reducible refine ((k1 _).out).mono ?_); rintro e w1 ⟨rfl, hbn⟩; obtain ⟨hcn, hfn⟩ := bcell hbn; (try simp only [World.size_drew, World.cell?_drew, World.frozen?_drew, World.heap_drewN, World.cell?_drewN, World.frozen?_drewN] at hcn hfn); have hsz := hbn.size; (try simp at hsz); (try have hsl := Nat.lt_of_succ_le hsz); (try have hz0 : wd.heap.size < w1.heap.size := (by have := hbn.size; (try simp at this); omega)); (try have hz1 : wd.heap.size + 1 < w1.heap.size := (by have := hbn.size; (try simp at this); omega)); (try have hz2 : wd.heap.size + 1 + 1 < w1.heap.size := (by have := hbn.size; (try simp at this); omega))) | (go_at_call 24; (with_reducible refine ((k2 _).out).mono ?_); rintro e w2 ⟨rfl, hbn⟩; obtain ⟨hcn, hfn⟩ := bcell hbn; (try simp only [World.size_drew, World.cell?_drew, World.frozen?_drew, World.heap_drewN, World.cell?_drewN, World.frozen?_drewN] at hcn hfn); have hsz := hbn.size; (try simp at hsz); (try have hsl := Nat.lt_of_succ_le hsz); (try have hz0 : wd.heap.size < w2.heap.size := (by have := hbn.size; (try simp at this); omega)); (try have hz1 : wd.heap.size + 1 < w2.heap.size := (by have := hbn.size; (try simp at this); omega)); (try have hz2 : wd.heap.size + 1 + 1 < w2.heap.size := (by have := hbn.size; (try simp at this); omega)); (try have hz3 : w1.heap.size < w2.heap.size := (by have := hbn.size; (try simp at this); omega))))
    go_ret
    exact ⟨rfl, (by repeat (first | with_reducible assumption | with_reducible exact Below.refl _ _ | (with_reducible refine below_chain ?_ (by with_reducible assumption) (by first | omega | (simp <;> omega) | simp)) | (with_reducible refine below_gb ?_ (by with_reducible assumption) (by first | omega | (simp <;> omega) | simp) (by first | omega | (simp <;> omega) | simp)) | (with_reducible refine Below.alloc ?_ (by first | omega | (simp <;> omega) | simp) _) | (with_reducible refine below_drewN ?_ _) | (with_reducible refine below_drew ?_) | (with_reducible refine Below.setCell ?_ (by first | omega | (simp <;> omega) | simp) _)))⟩

theorem walk_long (len cap : Nat) (p : Option Addr) (w : World) (hl : 1048576 < len) :
    Calls Try.prog 4 #[.slice p len cap] w fun e w' => e = .returned (.bool true) ∧ Below w.heap.size w w' := by
  have hl' : (1048576 : Int) < (len : Int) := by omega
  go_enter Try.func4, Try.ntmps4
  go_wp2
  go_ret
  exact ⟨rfl, Below.refl _ _⟩

set_option maxRecDepth 100000 in
theorem lifted (os : Os) (started : os.Started) (H : Type) (enc : TypeId × Value → H) :
    ReturnsInHanded {} Try.checked os 4 .any (Rows.fnPointOnSpec.pre6 enc Try.prog Try.f4 Rows.fnPointOnRow.domain false) (Rows.fnPointOnSpec.post enc Try.prog Try.f4 false true false false) := by
  refine returnsInHanded_of_change (C := Try.checked) own started (by kernel_rfl) Try.func4
    (ChangeSpec.witness6 (enc := enc) (C := Try.checked) false ⟨#[], #[.slice none 0 0], []⟩ 8 (by kernel_rfl) (by kernel_rfl) (by kernel_rfl) (by kernel_rfl)) ?_
  intro W base args ds gs before hval0 hW hcnd _
  have hval : ∀ (j : Nat) t v, Try.f4.params[j]? = some t → args[j]? = some v → Value.okWide Try.prog W .any base t v := hval0
  have hW' := hW
  obtain ⟨p, q, hA0, hV, rfl, hfz, hnd⟩ := hW
  have hA : DataW.TrodAll enc Try.prog W 0 (fun _ => true) true Try.f4.params.toList args.toList ds p := hA0
  rw [Try.params4] at hA hval
  obtain ⟨v0, vs0, d0, ds0, p0, q0, hargs, rfl, rfl, h0, r0⟩ := trodAll_cons hA
  obtain ⟨rfl, rfl, rfl⟩ := trodAll_nil r0
  obtain rfl : args = #[v0] := by cases args; simp_all
  obtain ⟨rfl, rfl⟩ := trodVars_none hV
  obtain ⟨a0, len0, cap0, rfl⟩ := okWide_slice Try.underlying22 (hval 0 22 v0 rfl rfl)
  have k0 := h0
  have lt0 : ∀ x ∈ p0, x.block < W.heap.size := by obtain ⟨m, hm⟩ := k0; exact DataW.trod_lt m _ _ _ hm
  obtain ⟨z0, w0⟩ : ∃ zs, IsRow .u8 W a0 len0 cap0 zs := by
    obtain ⟨fuel, hf⟩ := h0
    rcases open_ints Try.underlying22 Try.underlying5 (by kernel_rfl) hf with ⟨hcs, _⟩ | ⟨x, l, c, zs, hcs, _, hl, hm, hz, _, hcell, hwz⟩
    · simp [Value.cells] at hcs
      obtain ⟨rfl, rfl, rfl⟩ := hcs
      exact ⟨[], .inl ⟨rfl, rfl, rfl, rfl⟩⟩
    · simp [Value.cells] at hcs
      obtain ⟨rfl, rfl, rfl⟩ := hcs
      exact ⟨zs, .inr ⟨_, rfl, hl, hm, by simpa using hz, hcell, hwz⟩⟩
  clear hA0 hval0
  have hw : Calls Try.prog 4 #[.slice a0 len0 cap0] W fun e w' => e = .returned (.bool true) ∧ Below W.heap.size W w' := by
    by_cases hl : len0 ≤ 1048576
    · exact walk len0 cap0 a0 W hl (Lib.hid (code_of_row w0 hl))
    · exact walk_long len0 cap0 a0 W (by omega)
  refine hw.mono fun e W' ⟨he, bel⟩ => ?_
  subst he
  exact ⟨_, rfl, _, _, _, [], _, [], hW', trodAll_mk1 (shut_bool Try.underlying4 _), (trodAll_cons_mk (Below.trod laidOut (by kernel_rfl) (of_decide_eq_true (by kernel_rfl)) k0 bel lt0) trodAll_mk0), rfl, bel.frame _, fun h => by cases h⟩

theorem over : Rows.fnPointOnRow.holds Try.pinned (OpenSpec.ofChange Rows.fnPointOnSpec) :=
  OpenClaim.holds_of_wide 4 Try.f4 rfl rfl rfl rfl rfl rfl rfl ⟨rfl, rfl, rfl, rfl, rfl⟩ rfl rfl rfl rfl rfl (by kernel_rfl) Try.func4 (by kernel_rfl)
    (of_decide_eq_true (by kernel_rfl)) (by unfold Func.isWrapper; first | (rw [if_pos (by decide +kernel)]; kernel_rfl) | (rw [if_neg (by decide +kernel)]; exact ⟨rfl, rfl⟩))
    (fun os started H enc _ => lifted os started H enc)

theorem proved : Rows.FnPointOnSaid := over
end Go.Proofs.Ytigmhhdbldlgaaa.fnPointOn

