/-
  What the reference model's functions on sides of polygons answer.
-/
import Derived.Test.YtegcjdcinebleaaYr
import Derived.Test.YtegcjdcinebleaaPt
import Derived.Test.YtegcjdcinebleaaPv
import Derived.Test.YtegcjdcinebleaaYc
namespace Go.Proofs.Ytegcjdcinebleaa
open Go.RowKit Poly
set_option linter.unusedVariables false

set_option maxHeartbeats 1000000 in
theorem sSideP {a b p : P2} (ha : pvP a = true) (hb : pvP b = true) (hp : pvP p = true) (w : World) :
    Calls Try.prog 80 #[.agg #[.int .i64 a.1, .int .i64 a.2], .agg #[.int .i64 b.1, .int .i64 b.2], .agg #[.int .i64 p.1, .int .i64 p.2]] w fun e w' => e = .returned (.int .i64 (sd a b p)) ∧ Below w.heap.size w w' := by
  have c1 := fun w => Lib.hid (l2Step_any a.1 a.2 b.1 b.2 w ha hb)
  have c2 := fun w => Lib.hid (l2Step_any a.1 a.2 p.1 p.2 w ha hp)
  have c3 := fun w => Lib.hid (l2Cross_any (b.1 - a.1) (b.2 - a.2) (p.1 - a.1) (p.2 - a.2) w (Pt.sv_of ha hb) (Pt.sv_of ha hp))
  have c4 := fun w => Lib.hid (sign_is (Pt.cr (b.1 - a.1) (b.2 - a.2) (p.1 - a.1) (p.2 - a.2)) (sd a b p) w rfl)
  clear ha hb hp
  go_enter Try.func80, Try.ntmps80
  go_upto_region 1 with fail
  (refine wp_region_grows (by kernel_rfl) (by kernel_rfl) ?_; intro W_wg hWc_wg hWs_wg hWe_wg; (repeat (go_big_quiet_step ((first | (go_at_call 105; with_reducible exact Ext.call ((c1 _).out)) | (go_at_call 105; with_reducible exact Ext.call ((c2 _).out)) | (go_at_call 104; with_reducible exact Ext.call ((c3 _).out)) | (go_at_call 79; with_reducible exact Ext.call0 ((c4 _).out)))))); with_reducible refine wpQuiet_nil ?_; clear hWe_wg hWs_wg hWc_wg W_wg; intro wg hb_wg; obtain ⟨hc_wg, hf_wg⟩ := bcell hb_wg; (try simp only [World.size_drew, World.cell?_drew, World.frozen?_drew, World.heap_drewN, World.cell?_drewN, World.frozen?_drewN] at hc_wg hf_wg); have hs_wg := hb_wg.size; (try simp at hs_wg))
  go_wp2_with fail
  go_ret
  exact ⟨rfl, (by repeat (first | assumption | exact Below.refl _ _ | (refine below_chain ?_ (by assumption) (by first | omega | (simp <;> omega) | simp)) | (refine Below.alloc ?_ (by first | omega | (simp <;> omega) | simp) _) | (apply below_drewN) | (apply below_drew) | (refine Below.setCell ?_ (by first | omega | (simp <;> omega) | simp) _)))⟩
theorem sOnP {a b p : P2} (ha : pvP a = true) (hb : pvP b = true) (hp : pvP p = true) {s : Bool} (h : onP a b p = s) (w : World) :
    Calls Try.prog 65 #[.agg #[.int .i64 a.1, .int .i64 a.2], .agg #[.int .i64 b.1, .int .i64 b.2], .agg #[.int .i64 p.1, .int .i64 p.2]] w fun e w' => e = .returned (.bool s) ∧ Below w.heap.size w w' :=
  sOn_is a.1 a.2 b.1 b.2 p.1 p.2 s w ha hb hp h
set_option maxHeartbeats 4000000 in
theorem sMeet {a b c d : P2} (ha : pvP a = true) (hb : pvP b = true) (hc : pvP c = true) (hd : pvP d = true) (w : World) :
    Calls Try.prog 66 #[.agg #[.int .i64 a.1, .int .i64 a.2], .agg #[.int .i64 b.1, .int .i64 b.2], .agg #[.int .i64 c.1, .int .i64 c.2], .agg #[.int .i64 d.1, .int .i64 d.2]] w fun e w' => e = .returned (.bool (meet a b c d)) ∧ Below w.heap.size w w' := by
  obtain ⟨b1, h1⟩ : ∃ s, onP a b c = s := ⟨_, rfl⟩
  obtain ⟨b2, h2⟩ : ∃ s, onP a b d = s := ⟨_, rfl⟩
  obtain ⟨b3, h3⟩ : ∃ s, onP c d a = s := ⟨_, rfl⟩
  obtain ⟨b4, h4⟩ : ∃ s, onP c d b = s := ⟨_, rfl⟩
  have c1 := fun w => Lib.hid (sOnP ha hb hc h1 w)
  have c2 := fun w => Lib.hid (sOnP ha hb hd h2 w)
  have c3 := fun w => Lib.hid (sOnP hc hd ha h3 w)
  have c4 := fun w => Lib.hid (sOnP hc hd hb h4 w)
  have c5 := fun w => Lib.hid (sSideP ha hb hc w)
  have c6 := fun w => Lib.hid (sSideP ha hb hd w)
  have c7 := fun w => Lib.hid (sSideP hc hd ha w)
  have c8 := fun w => Lib.hid (sSideP hc hd hb w)
  have hm1 := sd_mul a b c d
  have hm2 := sd_mul c d a b
  have hm : meet a b c d = ((b1 || b2 || b3 || b4) || (decide (sd a b c * sd a b d < 0) && decide (sd c d a * sd c d b < 0))) := by unfold meet touch parts; rw [h1, h2, h3, h4]
  rw [hm]
  generalize sd a b c = s1 at *
  generalize sd a b d = s2 at *
  generalize sd c d a = s3 at *
  generalize sd c d b = s4 at *
  clear ha hb hc hd hm h1 h2 h3 h4
  have key : ∀ (V : World) (S0 S1 S2 S3 : Nat), Below w.heap.size w V → True := fun _ _ _ _ _ _ => trivial
  go_enter Try.func66, Try.ntmps66
  go_upto_region 1 with fail
  obtain ⟨V, hV⟩ : ∃ V, V = (((w.alloc (.cells #[.int .i64 a.1, .int .i64 a.2] 31)).alloc (.cells #[.int .i64 b.1, .int .i64 b.2] 31)).alloc (.cells #[.int .i64 c.1, .int .i64 c.2] 31)).alloc (.cells #[.int .i64 d.1, .int .i64 d.2] 31) := ⟨_, rfl⟩
  obtain ⟨S0, hS0⟩ : ∃ S, S = w.heap.size := ⟨_, rfl⟩
  obtain ⟨S1, hS1⟩ : ∃ S, S = w.heap.size + 1 := ⟨_, rfl⟩
  obtain ⟨S2, hS2⟩ : ∃ S, S = w.heap.size + 1 + 1 := ⟨_, rfl⟩
  obtain ⟨S3, hS3⟩ : ∃ S, S = w.heap.size + 1 + 1 + 1 := ⟨_, rfl⟩
  have x0 : V.cell? ⟨S0, 0, none⟩ = some (.int .i64 a.1) ∧ V.cell? ⟨S0, 1, none⟩ = some (.int .i64 a.2) := by rw [hV, hS0]; simp [go_sem]
  have x1 : V.cell? ⟨S1, 0, none⟩ = some (.int .i64 b.1) ∧ V.cell? ⟨S1, 1, none⟩ = some (.int .i64 b.2) := by rw [hV, hS1]; simp [go_sem]
  have x2 : V.cell? ⟨S2, 0, none⟩ = some (.int .i64 c.1) ∧ V.cell? ⟨S2, 1, none⟩ = some (.int .i64 c.2) := by rw [hV, hS2]; simp [go_sem]
  have x3 : V.cell? ⟨S3, 0, none⟩ = some (.int .i64 d.1) ∧ V.cell? ⟨S3, 1, none⟩ = some (.int .i64 d.2) := by rw [hV, hS3]; simp [go_sem]
  have hbV : Below w.heap.size w V := by rw [hV]; exact (by repeat (first | assumption | exact Below.refl _ _ | (refine below_chain ?_ (by assumption) (by first | omega | (simp <;> omega) | simp)) | (refine Below.alloc ?_ (by first | omega | (simp <;> omega) | simp) _) | (apply below_drewN) | (apply below_drew) | (refine Below.setCell ?_ (by first | omega | (simp <;> omega) | simp) _)))
  have hsV : V.heap.size = w.heap.size + 4 := by rw [hV]; simp
  rw [← hV, ← hS3, ← hS2, ← hS1, ← hS0]
  obtain ⟨x00, x01⟩ := x0
  obtain ⟨x10, x11⟩ := x1
  obtain ⟨x20, x21⟩ := x2
  obtain ⟨x30, x31⟩ := x3
  have q0 : S0 < V.heap.size := by omega
  have q1 : S1 < V.heap.size := by omega
  have q2 : S2 < V.heap.size := by omega
  have q3 : S3 < V.heap.size := by omega
  have hwV : w.heap.size ≤ V.heap.size := by omega
  clear hV hS0 hS1 hS2 hS3 key hsV
  cases b1
  · cases b2
    · cases b3
      · cases b4
        · go_wp2_with (first | ((go_at_call 65; (with_reducible refine ((c1 _).out).mono ?_); rintro e wa ⟨rfl, hb_wa⟩; have hs_wa := hb_wa.size; (try simp at hs_wa)); obtain ⟨hc_wa, hf_wa⟩ := bcell hb_wa; (have q0_wa : S0 < wa.heap.size := by omega); (have q1_wa : S1 < wa.heap.size := by omega); (have q2_wa : S2 < wa.heap.size := by omega); (have q3_wa : S3 < wa.heap.size := by omega)) | ((go_at_call 65; (with_reducible refine ((c2 _).out).mono ?_); rintro e wb ⟨rfl, hb_wb⟩; have hs_wb := hb_wb.size; (try simp at hs_wb)); obtain ⟨hc_wb, hf_wb⟩ := bcell hb_wb; (have q0_wb : S0 < wb.heap.size := by omega); (have q1_wb : S1 < wb.heap.size := by omega); (have q2_wb : S2 < wb.heap.size := by omega); (have q3_wb : S3 < wb.heap.size := by omega)) | ((go_at_call 65; (with_reducible refine ((c3 _).out).mono ?_); rintro e wc ⟨rfl, hb_wc⟩; have hs_wc := hb_wc.size; (try simp at hs_wc)); obtain ⟨hc_wc, hf_wc⟩ := bcell hb_wc; (have q0_wc : S0 < wc.heap.size := by omega); (have q1_wc : S1 < wc.heap.size := by omega); (have q2_wc : S2 < wc.heap.size := by omega); (have q3_wc : S3 < wc.heap.size := by omega)) | ((go_at_call 65; (with_reducible refine ((c4 _).out).mono ?_); rintro e wd ⟨rfl, hb_wd⟩; have hs_wd := hb_wd.size; (try simp at hs_wd)); obtain ⟨hc_wd, hf_wd⟩ := bcell hb_wd; (have q0_wd : S0 < wd.heap.size := by omega); (have q1_wd : S1 < wd.heap.size := by omega); (have q2_wd : S2 < wd.heap.size := by omega); (have q3_wd : S3 < wd.heap.size := by omega)))
          have hbd : Below w.heap.size w wd := (by repeat (first | assumption | exact Below.refl _ _ | (refine below_chain ?_ (by assumption) (by first | omega | (simp <;> omega) | simp)) | (refine Below.alloc ?_ (by first | omega | (simp <;> omega) | simp) _) | (apply below_drewN) | (apply below_drew) | (refine Below.setCell ?_ (by first | omega | (simp <;> omega) | simp) _)))
          have e0 : wd.cell? ⟨S0, 0, none⟩ = some (.int .i64 a.1) ∧ wd.cell? ⟨S0, 1, none⟩ = some (.int .i64 a.2) := by rw [hc_wd _ _ (by omega), hc_wd _ _ (by omega), hc_wc _ _ (by omega), hc_wc _ _ (by omega), hc_wb _ _ (by omega), hc_wb _ _ (by omega), hc_wa _ _ q0, hc_wa _ _ q0]; exact ⟨x00, x01⟩
          have e1 : wd.cell? ⟨S1, 0, none⟩ = some (.int .i64 b.1) ∧ wd.cell? ⟨S1, 1, none⟩ = some (.int .i64 b.2) := by rw [hc_wd _ _ (by omega), hc_wd _ _ (by omega), hc_wc _ _ (by omega), hc_wc _ _ (by omega), hc_wb _ _ (by omega), hc_wb _ _ (by omega), hc_wa _ _ q1, hc_wa _ _ q1]; exact ⟨x10, x11⟩
          have e2 : wd.cell? ⟨S2, 0, none⟩ = some (.int .i64 c.1) ∧ wd.cell? ⟨S2, 1, none⟩ = some (.int .i64 c.2) := by rw [hc_wd _ _ (by omega), hc_wd _ _ (by omega), hc_wc _ _ (by omega), hc_wc _ _ (by omega), hc_wb _ _ (by omega), hc_wb _ _ (by omega), hc_wa _ _ q2, hc_wa _ _ q2]; exact ⟨x20, x21⟩
          have e3 : wd.cell? ⟨S3, 0, none⟩ = some (.int .i64 d.1) ∧ wd.cell? ⟨S3, 1, none⟩ = some (.int .i64 d.2) := by rw [hc_wd _ _ (by omega), hc_wd _ _ (by omega), hc_wc _ _ (by omega), hc_wc _ _ (by omega), hc_wb _ _ (by omega), hc_wb _ _ (by omega), hc_wa _ _ q3, hc_wa _ _ q3]; exact ⟨x30, x31⟩
          obtain ⟨e00, e01⟩ := e0
          obtain ⟨e10, e11⟩ := e1
          obtain ⟨e20, e21⟩ := e2
          obtain ⟨e30, e31⟩ := e3
          clear hc_wa hc_wb hc_wc hc_wd hf_wa hf_wb hf_wc hf_wd hb_wa hb_wb hb_wc hb_wd x00 x01 x10 x11 x20 x21 x30 x31 hbV
          by_cases hn : s1 * s2 < 0
          · (refine wp_region_grows (by kernel_rfl) (by kernel_rfl) ?_; intro W_wg hWc_wg hWs_wg hWe_wg; (repeat (go_big_quiet_step ((first | (go_at_call 80; with_reducible exact Ext.call ((c5 _).out)) | (go_at_call 80; with_reducible exact Ext.call ((c6 _).out)) | (go_at_call 80; with_reducible exact Ext.call ((c7 _).out)) | (go_at_call 80; with_reducible exact Ext.call ((c8 _).out)))))); with_reducible refine wpQuiet_nil ?_; clear hWe_wg hWs_wg hWc_wg W_wg; intro wg hb_wg; obtain ⟨hc_wg, hf_wg⟩ := bcell hb_wg; (try simp only [World.size_drew, World.cell?_drew, World.frozen?_drew, World.heap_drewN, World.cell?_drewN, World.frozen?_drewN] at hc_wg hf_wg); have hs_wg := hb_wg.size; (try simp at hs_wg))
            go_wp2_with fail
            go_ret
            exact ⟨ret_bool (by simp [hn]), (by repeat (first | assumption | exact Below.refl _ _ | (refine below_chain ?_ (by assumption) (by first | omega | (simp <;> omega) | simp)) | (refine Below.alloc ?_ (by first | omega | (simp <;> omega) | simp) _) | (apply below_drewN) | (apply below_drew) | (refine Below.setCell ?_ (by first | omega | (simp <;> omega) | simp) _)))⟩
          · (refine wp_region_grows (by kernel_rfl) (by kernel_rfl) ?_; intro W_wg hWc_wg hWs_wg hWe_wg; (repeat (go_big_quiet_step ((first | (go_at_call 80; with_reducible exact Ext.call ((c5 _).out)) | (go_at_call 80; with_reducible exact Ext.call ((c6 _).out)) | (go_at_call 80; with_reducible exact Ext.call ((c7 _).out)) | (go_at_call 80; with_reducible exact Ext.call ((c8 _).out)))))); with_reducible refine wpQuiet_nil ?_; clear hWe_wg hWs_wg hWc_wg W_wg; intro wg hb_wg; obtain ⟨hc_wg, hf_wg⟩ := bcell hb_wg; (try simp only [World.size_drew, World.cell?_drew, World.frozen?_drew, World.heap_drewN, World.cell?_drewN, World.frozen?_drewN] at hc_wg hf_wg); have hs_wg := hb_wg.size; (try simp at hs_wg))
            go_wp2_with fail
            go_ret
            exact ⟨ret_bool (by simp; intro hh; omega), (by repeat (first | assumption | exact Below.refl _ _ | (refine below_chain ?_ (by assumption) (by first | omega | (simp <;> omega) | simp)) | (refine Below.alloc ?_ (by first | omega | (simp <;> omega) | simp) _) | (apply below_drewN) | (apply below_drew) | (refine Below.setCell ?_ (by first | omega | (simp <;> omega) | simp) _)))⟩
        · go_wp2_with (first | ((go_at_call 65; (with_reducible refine ((c1 _).out).mono ?_); rintro e wa ⟨rfl, hb_wa⟩; have hs_wa := hb_wa.size; (try simp at hs_wa)); obtain ⟨hc_wa, hf_wa⟩ := bcell hb_wa; (have q0_wa : S0 < wa.heap.size := by omega); (have q1_wa : S1 < wa.heap.size := by omega); (have q2_wa : S2 < wa.heap.size := by omega); (have q3_wa : S3 < wa.heap.size := by omega)) | ((go_at_call 65; (with_reducible refine ((c2 _).out).mono ?_); rintro e wb ⟨rfl, hb_wb⟩; have hs_wb := hb_wb.size; (try simp at hs_wb)); obtain ⟨hc_wb, hf_wb⟩ := bcell hb_wb; (have q0_wb : S0 < wb.heap.size := by omega); (have q1_wb : S1 < wb.heap.size := by omega); (have q2_wb : S2 < wb.heap.size := by omega); (have q3_wb : S3 < wb.heap.size := by omega)) | ((go_at_call 65; (with_reducible refine ((c3 _).out).mono ?_); rintro e wc ⟨rfl, hb_wc⟩; have hs_wc := hb_wc.size; (try simp at hs_wc)); obtain ⟨hc_wc, hf_wc⟩ := bcell hb_wc; (have q0_wc : S0 < wc.heap.size := by omega); (have q1_wc : S1 < wc.heap.size := by omega); (have q2_wc : S2 < wc.heap.size := by omega); (have q3_wc : S3 < wc.heap.size := by omega)) | ((go_at_call 65; (with_reducible refine ((c4 _).out).mono ?_); rintro e wd ⟨rfl, hb_wd⟩; have hs_wd := hb_wd.size; (try simp at hs_wd)); obtain ⟨hc_wd, hf_wd⟩ := bcell hb_wd; (have q0_wd : S0 < wd.heap.size := by omega); (have q1_wd : S1 < wd.heap.size := by omega); (have q2_wd : S2 < wd.heap.size := by omega); (have q3_wd : S3 < wd.heap.size := by omega)))
          go_ret
          exact ⟨rfl, (by repeat (first | assumption | exact Below.refl _ _ | (refine below_chain ?_ (by assumption) (by first | omega | (simp <;> omega) | simp)) | (refine Below.alloc ?_ (by first | omega | (simp <;> omega) | simp) _) | (apply below_drewN) | (apply below_drew) | (refine Below.setCell ?_ (by first | omega | (simp <;> omega) | simp) _)))⟩
      · go_wp2_with (first | ((go_at_call 65; (with_reducible refine ((c1 _).out).mono ?_); rintro e wa ⟨rfl, hb_wa⟩; have hs_wa := hb_wa.size; (try simp at hs_wa)); obtain ⟨hc_wa, hf_wa⟩ := bcell hb_wa; (have q0_wa : S0 < wa.heap.size := by omega); (have q1_wa : S1 < wa.heap.size := by omega); (have q2_wa : S2 < wa.heap.size := by omega); (have q3_wa : S3 < wa.heap.size := by omega)) | ((go_at_call 65; (with_reducible refine ((c2 _).out).mono ?_); rintro e wb ⟨rfl, hb_wb⟩; have hs_wb := hb_wb.size; (try simp at hs_wb)); obtain ⟨hc_wb, hf_wb⟩ := bcell hb_wb; (have q0_wb : S0 < wb.heap.size := by omega); (have q1_wb : S1 < wb.heap.size := by omega); (have q2_wb : S2 < wb.heap.size := by omega); (have q3_wb : S3 < wb.heap.size := by omega)) | ((go_at_call 65; (with_reducible refine ((c3 _).out).mono ?_); rintro e wc ⟨rfl, hb_wc⟩; have hs_wc := hb_wc.size; (try simp at hs_wc)); obtain ⟨hc_wc, hf_wc⟩ := bcell hb_wc; (have q0_wc : S0 < wc.heap.size := by omega); (have q1_wc : S1 < wc.heap.size := by omega); (have q2_wc : S2 < wc.heap.size := by omega); (have q3_wc : S3 < wc.heap.size := by omega)) | ((go_at_call 65; (with_reducible refine ((c4 _).out).mono ?_); rintro e wd ⟨rfl, hb_wd⟩; have hs_wd := hb_wd.size; (try simp at hs_wd)); obtain ⟨hc_wd, hf_wd⟩ := bcell hb_wd; (have q0_wd : S0 < wd.heap.size := by omega); (have q1_wd : S1 < wd.heap.size := by omega); (have q2_wd : S2 < wd.heap.size := by omega); (have q3_wd : S3 < wd.heap.size := by omega)))
        go_ret
        exact ⟨rfl, (by repeat (first | assumption | exact Below.refl _ _ | (refine below_chain ?_ (by assumption) (by first | omega | (simp <;> omega) | simp)) | (refine Below.alloc ?_ (by first | omega | (simp <;> omega) | simp) _) | (apply below_drewN) | (apply below_drew) | (refine Below.setCell ?_ (by first | omega | (simp <;> omega) | simp) _)))⟩
    · go_wp2_with (first | ((go_at_call 65; (with_reducible refine ((c1 _).out).mono ?_); rintro e wa ⟨rfl, hb_wa⟩; have hs_wa := hb_wa.size; (try simp at hs_wa)); obtain ⟨hc_wa, hf_wa⟩ := bcell hb_wa; (have q0_wa : S0 < wa.heap.size := by omega); (have q1_wa : S1 < wa.heap.size := by omega); (have q2_wa : S2 < wa.heap.size := by omega); (have q3_wa : S3 < wa.heap.size := by omega)) | ((go_at_call 65; (with_reducible refine ((c2 _).out).mono ?_); rintro e wb ⟨rfl, hb_wb⟩; have hs_wb := hb_wb.size; (try simp at hs_wb)); obtain ⟨hc_wb, hf_wb⟩ := bcell hb_wb; (have q0_wb : S0 < wb.heap.size := by omega); (have q1_wb : S1 < wb.heap.size := by omega); (have q2_wb : S2 < wb.heap.size := by omega); (have q3_wb : S3 < wb.heap.size := by omega)) | ((go_at_call 65; (with_reducible refine ((c3 _).out).mono ?_); rintro e wc ⟨rfl, hb_wc⟩; have hs_wc := hb_wc.size; (try simp at hs_wc)); obtain ⟨hc_wc, hf_wc⟩ := bcell hb_wc; (have q0_wc : S0 < wc.heap.size := by omega); (have q1_wc : S1 < wc.heap.size := by omega); (have q2_wc : S2 < wc.heap.size := by omega); (have q3_wc : S3 < wc.heap.size := by omega)) | ((go_at_call 65; (with_reducible refine ((c4 _).out).mono ?_); rintro e wd ⟨rfl, hb_wd⟩; have hs_wd := hb_wd.size; (try simp at hs_wd)); obtain ⟨hc_wd, hf_wd⟩ := bcell hb_wd; (have q0_wd : S0 < wd.heap.size := by omega); (have q1_wd : S1 < wd.heap.size := by omega); (have q2_wd : S2 < wd.heap.size := by omega); (have q3_wd : S3 < wd.heap.size := by omega)))
      go_ret
      exact ⟨rfl, (by repeat (first | assumption | exact Below.refl _ _ | (refine below_chain ?_ (by assumption) (by first | omega | (simp <;> omega) | simp)) | (refine Below.alloc ?_ (by first | omega | (simp <;> omega) | simp) _) | (apply below_drewN) | (apply below_drew) | (refine Below.setCell ?_ (by first | omega | (simp <;> omega) | simp) _)))⟩
  · go_wp2_with (first | ((go_at_call 65; (with_reducible refine ((c1 _).out).mono ?_); rintro e wa ⟨rfl, hb_wa⟩; have hs_wa := hb_wa.size; (try simp at hs_wa)); obtain ⟨hc_wa, hf_wa⟩ := bcell hb_wa; (have q0_wa : S0 < wa.heap.size := by omega); (have q1_wa : S1 < wa.heap.size := by omega); (have q2_wa : S2 < wa.heap.size := by omega); (have q3_wa : S3 < wa.heap.size := by omega)) | ((go_at_call 65; (with_reducible refine ((c2 _).out).mono ?_); rintro e wb ⟨rfl, hb_wb⟩; have hs_wb := hb_wb.size; (try simp at hs_wb)); obtain ⟨hc_wb, hf_wb⟩ := bcell hb_wb; (have q0_wb : S0 < wb.heap.size := by omega); (have q1_wb : S1 < wb.heap.size := by omega); (have q2_wb : S2 < wb.heap.size := by omega); (have q3_wb : S3 < wb.heap.size := by omega)) | ((go_at_call 65; (with_reducible refine ((c3 _).out).mono ?_); rintro e wc ⟨rfl, hb_wc⟩; have hs_wc := hb_wc.size; (try simp at hs_wc)); obtain ⟨hc_wc, hf_wc⟩ := bcell hb_wc; (have q0_wc : S0 < wc.heap.size := by omega); (have q1_wc : S1 < wc.heap.size := by omega); (have q2_wc : S2 < wc.heap.size := by omega); (have q3_wc : S3 < wc.heap.size := by omega)) | ((go_at_call 65; (with_reducible refine ((c4 _).out).mono ?_); rintro e wd ⟨rfl, hb_wd⟩; have hs_wd := hb_wd.size; (try simp at hs_wd)); obtain ⟨hc_wd, hf_wd⟩ := bcell hb_wd; (have q0_wd : S0 < wd.heap.size := by omega); (have q1_wd : S1 < wd.heap.size := by omega); (have q2_wd : S2 < wd.heap.size := by omega); (have q3_wd : S3 < wd.heap.size := by omega)))
    go_ret
    exact ⟨rfl, (by repeat (first | assumption | exact Below.refl _ _ | (refine below_chain ?_ (by assumption) (by first | omega | (simp <;> omega) | simp)) | (refine Below.alloc ?_ (by first | omega | (simp <;> omega) | simp) _) | (apply below_drewN) | (apply below_drew) | (refine Below.setCell ?_ (by first | omega | (simp <;> omega) | simp) _)))⟩
/-- the next corner's number as both programs reckon it -/
theorem rem_next {n k : Nat} (hk : k < n) : ((k : Int) + 1).tmod (n : Int) = (((k + 1) % n : Nat) : Int) := by
  rw [Int.tmod_eq_emod_of_nonneg (by omega)]; simp
theorem rem_next2 {n k : Nat} (hk : k < n) : ((k : Int) + 2).tmod (n : Int) = (((k + 2) % n : Nat) : Int) := by
  rw [Int.tmod_eq_emod_of_nonneg (by omega)]; simp
section
variable {p : Option Addr} {c : Nat} {L : List P2} {w : World}
theorem sPoints (h : Ints w p (fl L)) (hl : L.length ≤ 4000000000000000000) :
    Calls Try.prog 64 #[.slice p L.length c] w fun e w' => e = .returned (.bool (okP L)) ∧ Below w.heap.size w w' := by
  have H := Lib.hid h
  obtain ⟨bl, hbl⟩ : ∃ b, decide ((3 : Int) ≤ L.length ∧ (L.length : Int) ≤ 12) = b := ⟨_, rfl⟩
  have cl := fun w => Lib.hid (in_is (L.length : Int) 3 12 bl w hbl)
  obtain ⟨ok, hok⟩ : ∃ b, okP L = b := ⟨_, rfl⟩
  rw [hok]
  have HK := Lib.hid (And.intro hok hbl)
  clear h hbl hok
  go_enter Try.func64, Try.ntmps64
  go_wp2_with fail
  go_loopw [3] (fun i wr => ∃ k : Nat, k ≤ L.length ∧ i = .int .i64 k ∧ Hid (∀ j, j < k → pvP (cy L j) = true) ∧ Below w.heap.size w wr) (fun i _ => L.length - (intOf i).toNat)
  case atStart => exact ⟨0, Nat.zero_le _, rfl, Lib.hid (fun j hj => by omega), (by repeat (first | assumption | exact Below.refl _ _ | (refine below_chain ?_ (by assumption) (by first | omega | (simp <;> omega) | simp)) | (refine Below.alloc ?_ (by first | omega | (simp <;> omega) | simp) _) | (apply below_drewN) | (apply below_drew) | (refine Below.setCell ?_ (by first | omega | (simp <;> omega) | simp) _)))⟩
  case round =>
    obtain ⟨k, hk, rfl, hv, hb⟩ := hrel
    have hbs := hb.size
    by_cases hlt : k < L.length
    · obtain ⟨B, o, rfl, hB, c0, c1⟩ := (H.out.below hb).pt hlt
      by_cases hp : pvP (cy L k) = true
      · have cv := fun w => Lib.hid (spv_is (cy L k).1 (cy L k).2 true w hp)
        have hn2 : Hid (∀ j, j < k + 1 → pvP (cy L j) = true) := Lib.hid (fun j hj => by
          by_cases e : j = k
          · subst e; exact hp
          · exact hv.out j (by omega))
        clear hp
        go_wp2_with ((go_at_call 103; (with_reducible refine ((cv _).out).mono ?_); rintro e wn ⟨rfl, hb_wn⟩; have hs_wn := hb_wn.size; (try simp at hs_wn)))
        go_roundw
        case rel => exact ⟨k + 1, by omega, by go_num, hn2, (by repeat (first | assumption | exact Below.refl _ _ | (refine below_chain ?_ (by assumption) (by first | omega | (simp <;> omega) | simp)) | (refine Below.alloc ?_ (by first | omega | (simp <;> omega) | simp) _) | (apply below_drewN) | (apply below_drew) | (refine Below.setCell ?_ (by first | omega | (simp <;> omega) | simp) _)))⟩
        case measure => simp [intOf]; omega
      · have hp' : pvP (cy L k) = false := by simpa using hp
        have cv := fun w => Lib.hid (spv_is (cy L k).1 (cy L k).2 false w hp')
        have hn2 : Hid (ok = false) := Lib.hid (by rw [← HK.out.1]; exact okP_no hlt hp')
        clear hp hp'
        go_wp2_with ((go_at_call 103; (with_reducible refine ((cv _).out).mono ?_); rintro e wn ⟨rfl, hb_wn⟩; have hs_wn := hb_wn.size; (try simp at hs_wn)))
        go_ret
        exact ⟨ret_bool hn2.out.symm, (by repeat (first | assumption | exact Below.refl _ _ | (refine below_chain ?_ (by assumption) (by first | omega | (simp <;> omega) | simp)) | (refine Below.alloc ?_ (by first | omega | (simp <;> omega) | simp) _) | (apply below_drewN) | (apply below_drew) | (refine Below.setCell ?_ (by first | omega | (simp <;> omega) | simp) _)))⟩
    · have e : k = L.length := by omega
      subst e
      have hbk : bl = ok := by
        rw [← HK.out.1, ← HK.out.2]
        by_cases hh : 3 ≤ L.length ∧ L.length ≤ 12
        · rw [okP_of hh.1 hh.2 hv.out, decide_eq_true (by omega)]
        · rw [okP_short hh, decide_eq_false (by omega)]
      subst hbk
      go_wp2_with ((go_at_call 86; (with_reducible refine ((cl _).out).mono ?_); rintro e w' ⟨rfl, rfl⟩))
      go_ret
      exact ⟨rfl, (by repeat (first | assumption | exact Below.refl _ _ | (refine below_chain ?_ (by assumption) (by first | omega | (simp <;> omega) | simp)) | (refine Below.alloc ?_ (by first | omega | (simp <;> omega) | simp) _) | (apply below_drewN) | (apply below_drew) | (refine Below.setCell ?_ (by first | omega | (simp <;> omega) | simp) _)))⟩
end
end Go.Proofs.Ytegcjdcinebleaa
