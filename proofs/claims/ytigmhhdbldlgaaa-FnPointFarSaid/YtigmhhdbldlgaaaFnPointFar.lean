/-
  For every two codes the law FnPointFar returns true: the squares of the distances of a parallelogram's corners obey its law. No condition: every two lists of bytes are taken.
-/
import Derived.Test.YtigmhhdbldlgaaaDPts
import Derived.Test.YtigmhhdbldlgaaaCode
import Derived.Test.YtigmhhdbldlgaaaPv
import Derived.Test.YtigmhhdbldlgaaaRegB
namespace Go.Proofs.Ytigmhhdbldlgaaa.fnPointFar
open Go.ChangeShapes Go.WideShapes Go.ChangeAt Go.RowKit
set_option linter.unusedVariables false

theorem both_mk {a b c d : Int} (h1 : Pt.pv a b = true) (h2 : Pt.pv c d = true) : both a b c d = true := by unfold both; simp [h1, h2]
theorem law (a b c d u v : Int) : Pt.dt (c - a) (d - b) (c - a) (d - b) + Pt.dt (a + c - u - u) (b + d - v - v) (a + c - u - u) (b + d - v - v) = 2 * Pt.dt (u - a) (v - b) (u - a) (v - b) + 2 * Pt.dt (c - u) (d - v) (c - u) (d - v) := by unfold Pt.dt; grind
theorem dt_nn {x y : Int} (h : Pt.sv x y = true) : 0 ≤ Pt.dt x y x y ∧ Pt.dt x y x y ≤ 800000000 := by
  refine ⟨?_, (Pt.dt_bd h h).2⟩
  unfold Pt.dt
  have h1 : 0 ≤ x * x := by
    rcases Int.le_total 0 x with h | h
    · exact Int.mul_nonneg h h
    · exact Int.mul_nonneg_of_nonpos_of_nonpos h h
  have h2 : 0 ≤ y * y := by
    rcases Int.le_total 0 y with h | h
    · exact Int.mul_nonneg h h
    · exact Int.mul_nonneg_of_nonpos_of_nonpos h h
  omega
theorem far_is (a b c d f : Int) (w : World) (h1 : Pt.pv a b = true) (h2 : Pt.pv c d = true) (hf : Pt.dt (c - a) (d - b) (c - a) (d - b) = f) :
    Calls Try.prog 21 #[.agg #[.int .i64 a, .int .i64 b], .agg #[.int .i64 c, .int .i64 d]] w fun e w' => e = .returned (.int .i64 f) ∧ Below w.heap.size w w' := by
  rw [← hf]; exact iFar_yes a b c d w (both_mk h1 h2)
set_option maxHeartbeats 4000000 in
set_option maxRecDepth 100000 in
theorem walk (len cap : Nat) (p : Option Addr) (len1 cap1 : Nat) (p1 : Option Addr) (w : World) (hl : len ≤ 1048576) (hm : len1 ≤ 1048576) (h : Hid (Code' w (.slice p len cap))) (h' : Hid (Code' w (.slice p1 len1 cap1))) :
    Calls Try.prog 6 #[.slice p len cap, .slice p1 len1 cap1] w fun e w' => e = .returned (.bool true) ∧ Below w.heap.size w w' := by
  have hl' : ¬ (1048576 : Int) < (len : Int) := by omega
  have hm' : ¬ (1048576 : Int) < (len1 : Int) := by omega
  clear h'
  go_enter Try.func6, Try.ntmps6
  go_wp2_with (go_at_call 29; (with_reducible refine (drawFar_any _ _ h).mono ?_); rintro e wd ⟨a, b, c, d, -, -, rfl, hbd⟩; obtain ⟨hcn, hfn⟩ := bcell hbd; have hsd := hbd.size)
  by_cases h3 : both a b c d = true
  · obtain ⟨h1, h2⟩ := both_true h3
    obtain ⟨p1, p2, p3, p4⟩ := Pt.pv_true h1
    obtain ⟨p5, p6, p7, p8⟩ := Pt.pv_true h2
    have hpc : Pt.pv ((len1 : Int) % 11 - 5) ((len1 : Int) / 11 % 11 - 5) = true := Pt.pv_in (by omega) (by omega) (by omega) (by omega)
    obtain ⟨f1, hf1⟩ : ∃ f, Pt.dt (c - a) (d - b) (c - a) (d - b) = f := ⟨_, rfl⟩
    have n1 := dt_nn (Pt.sv_of h1 h2)
    rw [hf1] at n1
    obtain ⟨n1a, n1b⟩ := n1
    have k1 := fun w => Lib.hid (far_is a b c d f1 w h1 h2 hf1)
    have k2 := fun w => Lib.hid (sFar_yes a b c d w h1 h2)
    rw [hf1] at k2
    have g1 : ¬ f1 < 0 := by omega
    have g2 : 0 ≤ f1 := n1a
    by_cases hd : Pt.pv (a + c - ((len1 : Int) % 11 - 5)) (b + d - ((len1 : Int) / 11 % 11 - 5)) = true
    · obtain ⟨f2, hf2⟩ : ∃ f, Pt.dt (a + c - ((len1 : Int) % 11 - 5) - ((len1 : Int) % 11 - 5)) (b + d - ((len1 : Int) / 11 % 11 - 5) - ((len1 : Int) / 11 % 11 - 5)) (a + c - ((len1 : Int) % 11 - 5) - ((len1 : Int) % 11 - 5)) (b + d - ((len1 : Int) / 11 % 11 - 5) - ((len1 : Int) / 11 % 11 - 5)) = f := ⟨_, rfl⟩
      obtain ⟨f3, hf3⟩ : ∃ f, Pt.dt ((len1 : Int) % 11 - 5 - a) ((len1 : Int) / 11 % 11 - 5 - b) ((len1 : Int) % 11 - 5 - a) ((len1 : Int) / 11 % 11 - 5 - b) = f := ⟨_, rfl⟩
      obtain ⟨f4, hf4⟩ : ∃ f, Pt.dt (c - ((len1 : Int) % 11 - 5)) (d - ((len1 : Int) / 11 % 11 - 5)) (c - ((len1 : Int) % 11 - 5)) (d - ((len1 : Int) / 11 % 11 - 5)) = f := ⟨_, rfl⟩
      have hlaw := law a b c d ((len1 : Int) % 11 - 5) ((len1 : Int) / 11 % 11 - 5)
      rw [hf1, hf2, hf3, hf4] at hlaw
      have hB : (f1 + f2 == 2 * f3 + 2 * f4) = true := by simpa using hlaw
      have n2 := dt_nn (Pt.sv_of hpc hd)
      have n3 := dt_nn (Pt.sv_of h1 hpc)
      have n4 := dt_nn (Pt.sv_of hpc h2)
      rw [hf2] at n2
      rw [hf3] at n3
      rw [hf4] at n4
      obtain ⟨n2a, n2b⟩ := n2
      obtain ⟨n3a, n3b⟩ := n3
      obtain ⟨n4a, n4b⟩ := n4
      have k3 := fun w => Lib.hid (ipv_is _ _ true w hd)
      have k4 := fun w => Lib.hid (far_is _ _ _ _ f2 w hpc hd hf2)
      have k5 := fun w => Lib.hid (far_is _ _ _ _ f3 w h1 hpc hf3)
      have k6 := fun w => Lib.hid (far_is _ _ _ _ f4 w hpc h2 hf4)
      clear h1 h2 h3 hd hpc hf1 hf2 hf3 hf4 hlaw
      go_wp2_with (first | (go_at_call 21; (with_reducible refine ((k1 _).out).mono ?_); rintro e w1 ⟨rfl, hbn⟩; obtain ⟨hcn, hfn⟩ := bcell hbn; (try simp only [World.size_drew, World.cell?_drew, World.frozen?_drew, World.heap_drewN, World.cell?_drewN, World.frozen?_drewN] at hcn hfn); have hsz := hbn.size; (try simp at hsz); (try have hsl := Nat.lt_of_succ_le hsz); (try have hz0 : wd.heap.size < w1.heap.size := (by have := hbn.size; (try simp at this); omega)); (try have hz1 : wd.heap.size + 1 < w1.heap.size := (by have := hbn.size; (try simp at this); omega))) | (go_at_call 30; (with_reducible refine ((k2 _).out).mono ?_); rintro e w2 ⟨rfl, hbn⟩; obtain ⟨hcn, hfn⟩ := bcell hbn; (try simp only [World.size_drew, World.cell?_drew, World.frozen?_drew, World.heap_drewN, World.cell?_drewN, World.frozen?_drewN] at hcn hfn); have hsz := hbn.size; (try simp at hsz); (try have hsl := Nat.lt_of_succ_le hsz); (try have hz0 : wd.heap.size < w2.heap.size := (by have := hbn.size; (try simp at this); omega)); (try have hz1 : wd.heap.size + 1 < w2.heap.size := (by have := hbn.size; (try simp at this); omega)); (try have hz2 : w1.heap.size < w2.heap.size := (by have := hbn.size; (try simp at this); omega)); (have hy0 : wd.heap.size < w2.heap.size + 1 + 1 := (by omega)); (have hx0 : wd.heap.size ≤ w2.heap.size + 1 := (by omega)); (have hy1 : wd.heap.size + 1 < w2.heap.size + 1 + 1 := (by omega)); (have hx1 : wd.heap.size + 1 ≤ w2.heap.size + 1 := (by omega)); (have hy2 : w1.heap.size < w2.heap.size + 1 + 1 := (by omega)); (have hx2 : w1.heap.size ≤ w2.heap.size + 1 := (by omega))) | (go_at_call 31; (with_reducible refine ((k3 _).out).mono ?_); rintro e w3 ⟨rfl, hbn⟩; obtain ⟨hcn, hfn⟩ := bcell hbn; (try simp only [World.size_drew, World.cell?_drew, World.frozen?_drew, World.heap_drewN, World.cell?_drewN, World.frozen?_drewN] at hcn hfn); have hsz := hbn.size; (try simp at hsz); (try have hsl := Nat.lt_of_succ_le hsz); (try have hz0 : wd.heap.size < w3.heap.size := (by have := hbn.size; (try simp at this); omega)); (try have hz1 : wd.heap.size + 1 < w3.heap.size := (by have := hbn.size; (try simp at this); omega)); (try have hz2 : w1.heap.size < w3.heap.size := (by have := hbn.size; (try simp at this); omega)); (try have hz3 : w2.heap.size < w3.heap.size := (by have := hbn.size; (try simp at this); omega)); (try have hz4 : w2.heap.size + 1 < w3.heap.size := (by have := hbn.size; (try simp at this); omega))))
      (refine wp_region_grows (by kernel_rfl) (by kernel_rfl) ?_; intro W_wg hWc_wg hWs_wg hWe_wg; (repeat (go_big_quiet_step (first | (go_at_call 21; with_reducible exact Ext.call ((k4 _).out)) | (go_at_call 21; with_reducible exact Ext.call ((k5 _).out)) | (go_at_call 21; with_reducible exact Ext.call ((k6 _).out))))); with_reducible refine wpQuiet_nil ?_; clear hWe_wg hWs_wg hWc_wg W_wg; intro wg hb_wg; obtain ⟨hc_wg, hf_wg⟩ := bcell hb_wg; (try simp only [World.size_drew, World.cell?_drew, World.frozen?_drew, World.heap_drewN, World.cell?_drewN, World.frozen?_drewN] at hc_wg hf_wg); have hs_wg := hb_wg.size; (try simp at hs_wg); (try have hz_wg0 : wd.heap.size < wg.heap.size := (by have := hb_wg.size; (try simp at this); omega)))
      go_wp2_with fail
      go_ret
      exact ⟨rfl, (by repeat (first | with_reducible assumption | with_reducible exact Below.refl _ _ | (with_reducible refine below_chain ?_ (by with_reducible assumption) (by first | omega | (simp <;> omega) | simp)) | (with_reducible refine below_gb ?_ (by with_reducible assumption) (by first | omega | (simp <;> omega) | simp) (by first | omega | (simp <;> omega) | simp)) | (with_reducible refine Below.alloc ?_ (by first | omega | (simp <;> omega) | simp) _) | (with_reducible refine below_drewN ?_ _) | (with_reducible refine below_drew ?_) | (with_reducible refine Below.setCell ?_ (by first | omega | (simp <;> omega) | simp) _)))⟩
    · have k3 := fun w => Lib.hid (ipv_is _ _ false w (by simpa using hd))
      clear h1 h2 h3 hd hpc hf1
      go_wp2_with (first | (go_at_call 21; (with_reducible refine ((k1 _).out).mono ?_); rintro e w1 ⟨rfl, hbn⟩; obtain ⟨hcn, hfn⟩ := bcell hbn; (try simp only [World.size_drew, World.cell?_drew, World.frozen?_drew, World.heap_drewN, World.cell?_drewN, World.frozen?_drewN] at hcn hfn); have hsz := hbn.size; (try simp at hsz); (try have hsl := Nat.lt_of_succ_le hsz); (try have hz0 : wd.heap.size < w1.heap.size := (by have := hbn.size; (try simp at this); omega)); (try have hz1 : wd.heap.size + 1 < w1.heap.size := (by have := hbn.size; (try simp at this); omega))) | (go_at_call 30; (with_reducible refine ((k2 _).out).mono ?_); rintro e w2 ⟨rfl, hbn⟩; obtain ⟨hcn, hfn⟩ := bcell hbn; (try simp only [World.size_drew, World.cell?_drew, World.frozen?_drew, World.heap_drewN, World.cell?_drewN, World.frozen?_drewN] at hcn hfn); have hsz := hbn.size; (try simp at hsz); (try have hsl := Nat.lt_of_succ_le hsz); (try have hz0 : wd.heap.size < w2.heap.size := (by have := hbn.size; (try simp at this); omega)); (try have hz1 : wd.heap.size + 1 < w2.heap.size := (by have := hbn.size; (try simp at this); omega)); (try have hz2 : w1.heap.size < w2.heap.size := (by have := hbn.size; (try simp at this); omega)); (have hy0 : wd.heap.size < w2.heap.size + 1 + 1 := (by omega)); (have hx0 : wd.heap.size ≤ w2.heap.size + 1 := (by omega)); (have hy1 : wd.heap.size + 1 < w2.heap.size + 1 + 1 := (by omega)); (have hx1 : wd.heap.size + 1 ≤ w2.heap.size + 1 := (by omega)); (have hy2 : w1.heap.size < w2.heap.size + 1 + 1 := (by omega)); (have hx2 : w1.heap.size ≤ w2.heap.size + 1 := (by omega))) | (go_at_call 31; (with_reducible refine ((k3 _).out).mono ?_); rintro e w3 ⟨rfl, hbn⟩; obtain ⟨hcn, hfn⟩ := bcell hbn; (try simp only [World.size_drew, World.cell?_drew, World.frozen?_drew, World.heap_drewN, World.cell?_drewN, World.frozen?_drewN] at hcn hfn); have hsz := hbn.size; (try simp at hsz); (try have hsl := Nat.lt_of_succ_le hsz); (try have hz0 : wd.heap.size < w3.heap.size := (by have := hbn.size; (try simp at this); omega)); (try have hz1 : wd.heap.size + 1 < w3.heap.size := (by have := hbn.size; (try simp at this); omega)); (try have hz2 : w1.heap.size < w3.heap.size := (by have := hbn.size; (try simp at this); omega)); (try have hz3 : w2.heap.size < w3.heap.size := (by have := hbn.size; (try simp at this); omega)); (try have hz4 : w2.heap.size + 1 < w3.heap.size := (by have := hbn.size; (try simp at this); omega))))
      go_ret
      exact ⟨rfl, (by repeat (first | with_reducible assumption | with_reducible exact Below.refl _ _ | (with_reducible refine below_chain ?_ (by with_reducible assumption) (by first | omega | (simp <;> omega) | simp)) | (with_reducible refine below_gb ?_ (by with_reducible assumption) (by first | omega | (simp <;> omega) | simp) (by first | omega | (simp <;> omega) | simp)) | (with_reducible refine Below.alloc ?_ (by first | omega | (simp <;> omega) | simp) _) | (with_reducible refine below_drewN ?_ _) | (with_reducible refine below_drew ?_) | (with_reducible refine Below.setCell ?_ (by first | omega | (simp <;> omega) | simp) _)))⟩
  · have h3' : both a b c d = false := by simpa using h3
    have k1 := fun w => Lib.hid (iFar_no a b c d w h3')
    have k2 := fun w => Lib.hid (sFar_no a b c d _ _ w rfl rfl h3')
    clear h3 h3'
    go_wp2_with (first | (go_at_call 21; (with_reducible refine ((k1 _).out).mono ?_); rintro e w1 ⟨rfl, hbn⟩; obtain ⟨hcn, hfn⟩ := bcell hbn; (try simp only [World.size_drew, World.cell?_drew, World.frozen?_drew, World.heap_drewN, World.cell?_drewN, World.frozen?_drewN] at hcn hfn); have hsz := hbn.size; (try simp at hsz); (try have hsl := Nat.lt_of_succ_le hsz); (try have hz0 : wd.heap.size < w1.heap.size := (by have := hbn.size; (try simp at this); omega)); (try have hz1 : wd.heap.size + 1 < w1.heap.size := (by have := hbn.size; (try simp at this); omega))) | (go_at_call 30; (with_reducible refine ((k2 _).out).mono ?_); rintro e w2 ⟨rfl, hbn⟩; obtain ⟨hcn, hfn⟩ := bcell hbn; (try simp only [World.size_drew, World.cell?_drew, World.frozen?_drew, World.heap_drewN, World.cell?_drewN, World.frozen?_drewN] at hcn hfn); have hsz := hbn.size; (try simp at hsz); (try have hsl := Nat.lt_of_succ_le hsz); (try have hz0 : wd.heap.size < w2.heap.size := (by have := hbn.size; (try simp at this); omega)); (try have hz1 : wd.heap.size + 1 < w2.heap.size := (by have := hbn.size; (try simp at this); omega)); (try have hz2 : w1.heap.size < w2.heap.size := (by have := hbn.size; (try simp at this); omega)); (have hy0 : wd.heap.size < w2.heap.size + 1 + 1 := (by omega)); (have hx0 : wd.heap.size ≤ w2.heap.size + 1 := (by omega)); (have hy1 : wd.heap.size + 1 < w2.heap.size + 1 + 1 := (by omega)); (have hx1 : wd.heap.size + 1 ≤ w2.heap.size + 1 := (by omega)); (have hy2 : w1.heap.size < w2.heap.size + 1 + 1 := (by omega)); (have hx2 : w1.heap.size ≤ w2.heap.size + 1 := (by omega))))
    go_ret
    exact ⟨rfl, (by repeat (first | with_reducible assumption | with_reducible exact Below.refl _ _ | (with_reducible refine below_chain ?_ (by with_reducible assumption) (by first | omega | (simp <;> omega) | simp)) | (with_reducible refine below_gb ?_ (by with_reducible assumption) (by first | omega | (simp <;> omega) | simp) (by first | omega | (simp <;> omega) | simp)) | (with_reducible refine Below.alloc ?_ (by first | omega | (simp <;> omega) | simp) _) | (with_reducible refine below_drewN ?_ _) | (with_reducible refine below_drew ?_) | (with_reducible refine Below.setCell ?_ (by first | omega | (simp <;> omega) | simp) _)))⟩

theorem walk_long (len cap : Nat) (p : Option Addr) (len1 cap1 : Nat) (p1 : Option Addr) (w : World) (hl : 1048576 < len ∨ 1048576 < len1) :
    Calls Try.prog 6 #[.slice p len cap, .slice p1 len1 cap1] w fun e w' => e = .returned (.bool true) ∧ Below w.heap.size w w' := by
  by_cases h0 : (1048576 : Int) < (len : Int)
  · go_enter Try.func6, Try.ntmps6
    go_wp2
    go_ret
    exact ⟨rfl, Below.refl _ _⟩
  · have hl' : (1048576 : Int) < (len1 : Int) := by omega
    clear hl
    go_enter Try.func6, Try.ntmps6
    go_wp2
    go_ret
    exact ⟨rfl, Below.refl _ _⟩

set_option maxRecDepth 100000 in
theorem lifted (os : Os) (started : os.Started) (H : Type) (enc : TypeId × Value → H) :
    ReturnsInHanded {} Try.checked os 6 .any (Rows.fnPointFarSpec.pre6 enc Try.prog Try.f6 Rows.fnPointFarRow.domain false) (Rows.fnPointFarSpec.post enc Try.prog Try.f6 false true false false) := by
  refine returnsInHanded_of_change (C := Try.checked) own started (by kernel_rfl) Try.func6
    (ChangeSpec.witness6 (enc := enc) (C := Try.checked) false ⟨#[], #[.slice none 0 0, .slice none 0 0], []⟩ 8 (by kernel_rfl) (by kernel_rfl) (by kernel_rfl) (by kernel_rfl)) ?_
  intro W base args ds gs before hval0 hW hcnd _
  have hval : ∀ (j : Nat) t v, Try.f6.params[j]? = some t → args[j]? = some v → Value.okWide Try.prog W .any base t v := hval0
  have hW' := hW
  obtain ⟨p, q, hA0, hV, rfl, hfz, hnd⟩ := hW
  have hA : DataW.TrodAll enc Try.prog W 0 (fun _ => true) true Try.f6.params.toList args.toList ds p := hA0
  rw [Try.params6] at hA hval
  obtain ⟨v0, vs0, d0, ds0, p0, q0, hargs, rfl, rfl, h0, r0⟩ := trodAll_cons hA
  obtain ⟨v1, vs1, d1, ds1, p1, q1, rfl, rfl, rfl, h1, r1⟩ := trodAll_cons r0
  obtain ⟨rfl, rfl, rfl⟩ := trodAll_nil r1
  obtain rfl : args = #[v0, v1] := by cases args; simp_all
  obtain ⟨rfl, rfl⟩ := trodVars_none hV
  obtain ⟨a0, len0, cap0, rfl⟩ := okWide_slice Try.underlying22 (hval 0 22 v0 rfl rfl)
  have k0 := h0
  have lt0 : ∀ x ∈ p0, x.block < W.heap.size := by obtain ⟨m, hm⟩ := k0; exact DataW.trod_lt m _ _ _ hm
  obtain ⟨z0, w0⟩ : ∃ zs, IsRow .u8 W a0 len0 cap0 zs := by
    obtain ⟨fuel, hf⟩ := h0
    rcases open_ints Try.underlying22 Try.underlying5 (by kernel_rfl) hf with ⟨hcs, _⟩ | ⟨x, l, c, zs, hcs, _, hl, hm, hz, _, hcell, hwz⟩
    · simp [Value.cells] at hcs
      obtain ⟨rfl, rfl, rfl⟩ := hcs
      exact ⟨[], .inl ⟨rfl, rfl, rfl, rfl⟩⟩
    · simp [Value.cells] at hcs
      obtain ⟨rfl, rfl, rfl⟩ := hcs
      exact ⟨zs, .inr ⟨_, rfl, hl, hm, by simpa using hz, hcell, hwz⟩⟩
  obtain ⟨a1, len1, cap1, rfl⟩ := okWide_slice Try.underlying22 (hval 1 22 v1 rfl rfl)
  have k1 := h1
  have lt1 : ∀ x ∈ p1, x.block < W.heap.size := by obtain ⟨m, hm⟩ := k1; exact DataW.trod_lt m _ _ _ hm
  obtain ⟨z1, w1⟩ : ∃ zs, IsRow .u8 W a1 len1 cap1 zs := by
    obtain ⟨fuel, hf⟩ := h1
    rcases open_ints Try.underlying22 Try.underlying5 (by kernel_rfl) hf with ⟨hcs, _⟩ | ⟨x, l, c, zs, hcs, _, hl, hm, hz, _, hcell, hwz⟩
    · simp [Value.cells] at hcs
      obtain ⟨rfl, rfl, rfl⟩ := hcs
      exact ⟨[], .inl ⟨rfl, rfl, rfl, rfl⟩⟩
    · simp [Value.cells] at hcs
      obtain ⟨rfl, rfl, rfl⟩ := hcs
      exact ⟨zs, .inr ⟨_, rfl, hl, hm, by simpa using hz, hcell, hwz⟩⟩
  clear hA0 hval0
  have hw : Calls Try.prog 6 #[.slice a0 len0 cap0, .slice a1 len1 cap1] W fun e w' => e = .returned (.bool true) ∧ Below W.heap.size W w' := by
    by_cases hl : len0 ≤ 1048576
    · by_cases hm : len1 ≤ 1048576
      · exact walk len0 cap0 a0 len1 cap1 a1 W hl hm (Lib.hid (code_of_row w0 hl)) (Lib.hid (code_of_row w1 hm))
      · exact walk_long len0 cap0 a0 len1 cap1 a1 W (by omega)
    · exact walk_long len0 cap0 a0 len1 cap1 a1 W (by omega)
  refine hw.mono fun e W' ⟨he, bel⟩ => ?_
  subst he
  exact ⟨_, rfl, _, _, _, [], _, [], hW', trodAll_mk1 (shut_bool Try.underlying4 _), (trodAll_cons_mk (Below.trod laidOut (by kernel_rfl) (of_decide_eq_true (by kernel_rfl)) k0 bel lt0) (trodAll_cons_mk (Below.trod laidOut (by kernel_rfl) (of_decide_eq_true (by kernel_rfl)) k1 bel lt1) trodAll_mk0)), rfl, bel.frame _, fun h => by cases h⟩

theorem over : Rows.fnPointFarRow.holds Try.pinned (OpenSpec.ofChange Rows.fnPointFarSpec) :=
  OpenClaim.holds_of_wide 6 Try.f6 rfl rfl rfl rfl rfl rfl rfl ⟨rfl, rfl, rfl, rfl, rfl⟩ rfl rfl rfl rfl rfl (by kernel_rfl) Try.func6 (by kernel_rfl)
    (of_decide_eq_true (by kernel_rfl)) (by unfold Func.isWrapper; first | (rw [if_pos (by decide +kernel)]; kernel_rfl) | (rw [if_neg (by decide +kernel)]; exact ⟨rfl, rfl⟩))
    (fun os started H enc _ => lifted os started H enc)

theorem proved : Rows.FnPointFarSaid := over
end Go.Proofs.Ytigmhhdbldlgaaa.fnPointFar

