/-
  What the reference model's functions on sides of polygons answer.
  What the reference model's polygons answer: areas, points on the sides, valid.
  Which lists the reference model takes for simple polygons.
  The reference model's parcels: which lists are parcels, how many sides two have in common.
-/
import Derived.Test.YtgncjpakclbegaaYra
import Derived.Test.YtgncjpakclbegaaPz
import Derived.Test.YtgncjpakclbegaaYip
import Derived.Test.YtgncjpakclbegaaYma
namespace Go.Proofs.Ytgncjpakclbegaa
open Go.RowKit Poly
set_option linter.unusedVariables false

set_option maxHeartbeats 1000000 in
theorem sSideP {a b p : P2} (ha : pvP a = true) (hb : pvP b = true) (hp : pvP p = true) (w : World) :
    Calls Try.prog 79 #[.agg #[.int .i64 a.1, .int .i64 a.2], .agg #[.int .i64 b.1, .int .i64 b.2], .agg #[.int .i64 p.1, .int .i64 p.2]] w fun e w' => e = .returned (.int .i64 (sd a b p)) ∧ Below w.heap.size w w' := by
  have c1 := fun w => Lib.hid (l2Step_any a.1 a.2 b.1 b.2 w ha hb)
  have c2 := fun w => Lib.hid (l2Step_any a.1 a.2 p.1 p.2 w ha hp)
  have c3 := fun w => Lib.hid (l2Cross_any (b.1 - a.1) (b.2 - a.2) (p.1 - a.1) (p.2 - a.2) w (Pt.sv_of ha hb) (Pt.sv_of ha hp))
  have c4 := fun w => Lib.hid (sign_is (Pt.cr (b.1 - a.1) (b.2 - a.2) (p.1 - a.1) (p.2 - a.2)) (sd a b p) w rfl)
  clear ha hb hp
  go_enter Try.func79, Try.ntmps79
  go_upto_region 1 with fail
  (refine wp_region_grows (by kernel_rfl) (by kernel_rfl) ?_; intro W_wg hWc_wg hWs_wg hWe_wg; (repeat (go_big_quiet_step ((first | (go_at_call 106; with_reducible exact Ext.call ((c1 _).out)) | (go_at_call 106; with_reducible exact Ext.call ((c2 _).out)) | (go_at_call 105; with_reducible exact Ext.call ((c3 _).out)) | (go_at_call 78; with_reducible exact Ext.call0 ((c4 _).out)))))); with_reducible refine wpQuiet_nil ?_; clear hWe_wg hWs_wg hWc_wg W_wg; intro wg hb_wg; obtain ⟨hc_wg, hf_wg⟩ := bcell hb_wg; (try simp only [World.size_drew, World.cell?_drew, World.frozen?_drew, World.heap_drewN, World.cell?_drewN, World.frozen?_drewN] at hc_wg hf_wg); have hs_wg := hb_wg.size; (try simp at hs_wg))
  go_wp2_with fail
  go_ret
  exact ⟨rfl, (by repeat (first | assumption | exact Below.refl _ _ | (refine below_chain ?_ (by assumption) (by first | omega | (simp <;> omega) | simp)) | (refine Below.alloc ?_ (by first | omega | (simp <;> omega) | simp) _) | (apply below_drewN) | (apply below_drew) | (refine Below.setCell ?_ (by first | omega | (simp <;> omega) | simp) _)))⟩
theorem sOnP {a b p : P2} (ha : pvP a = true) (hb : pvP b = true) (hp : pvP p = true) {s : Bool} (h : onP a b p = s) (w : World) :
    Calls Try.prog 63 #[.agg #[.int .i64 a.1, .int .i64 a.2], .agg #[.int .i64 b.1, .int .i64 b.2], .agg #[.int .i64 p.1, .int .i64 p.2]] w fun e w' => e = .returned (.bool s) ∧ Below w.heap.size w w' :=
  sOn_is a.1 a.2 b.1 b.2 p.1 p.2 s w ha hb hp h
set_option maxHeartbeats 4000000 in
theorem sMeet {a b c d : P2} (ha : pvP a = true) (hb : pvP b = true) (hc : pvP c = true) (hd : pvP d = true) (w : World) :
    Calls Try.prog 64 #[.agg #[.int .i64 a.1, .int .i64 a.2], .agg #[.int .i64 b.1, .int .i64 b.2], .agg #[.int .i64 c.1, .int .i64 c.2], .agg #[.int .i64 d.1, .int .i64 d.2]] w fun e w' => e = .returned (.bool (meet a b c d)) ∧ Below w.heap.size w w' := by
  obtain ⟨b1, h1⟩ : ∃ s, onP a b c = s := ⟨_, rfl⟩
  obtain ⟨b2, h2⟩ : ∃ s, onP a b d = s := ⟨_, rfl⟩
  obtain ⟨b3, h3⟩ : ∃ s, onP c d a = s := ⟨_, rfl⟩
  obtain ⟨b4, h4⟩ : ∃ s, onP c d b = s := ⟨_, rfl⟩
  have c1 := fun w => Lib.hid (sOnP ha hb hc h1 w)
  have c2 := fun w => Lib.hid (sOnP ha hb hd h2 w)
  have c3 := fun w => Lib.hid (sOnP hc hd ha h3 w)
  have c4 := fun w => Lib.hid (sOnP hc hd hb h4 w)
  have c5 := fun w => Lib.hid (sSideP ha hb hc w)
  have c6 := fun w => Lib.hid (sSideP ha hb hd w)
  have c7 := fun w => Lib.hid (sSideP hc hd ha w)
  have c8 := fun w => Lib.hid (sSideP hc hd hb w)
  have hm1 := sd_mul a b c d
  have hm2 := sd_mul c d a b
  have hm : meet a b c d = ((b1 || b2 || b3 || b4) || (decide (sd a b c * sd a b d < 0) && decide (sd c d a * sd c d b < 0))) := by unfold meet touch parts; rw [h1, h2, h3, h4]
  rw [hm]
  generalize sd a b c = s1 at *
  generalize sd a b d = s2 at *
  generalize sd c d a = s3 at *
  generalize sd c d b = s4 at *
  clear ha hb hc hd hm h1 h2 h3 h4
  have key : ∀ (V : World) (S0 S1 S2 S3 : Nat), Below w.heap.size w V → True := fun _ _ _ _ _ _ => trivial
  go_enter Try.func64, Try.ntmps64
  go_upto_region 1 with fail
  obtain ⟨V, hV⟩ : ∃ V, V = (((w.alloc (.cells #[.int .i64 a.1, .int .i64 a.2] 31)).alloc (.cells #[.int .i64 b.1, .int .i64 b.2] 31)).alloc (.cells #[.int .i64 c.1, .int .i64 c.2] 31)).alloc (.cells #[.int .i64 d.1, .int .i64 d.2] 31) := ⟨_, rfl⟩
  obtain ⟨S0, hS0⟩ : ∃ S, S = w.heap.size := ⟨_, rfl⟩
  obtain ⟨S1, hS1⟩ : ∃ S, S = w.heap.size + 1 := ⟨_, rfl⟩
  obtain ⟨S2, hS2⟩ : ∃ S, S = w.heap.size + 1 + 1 := ⟨_, rfl⟩
  obtain ⟨S3, hS3⟩ : ∃ S, S = w.heap.size + 1 + 1 + 1 := ⟨_, rfl⟩
  have x0 : V.cell? ⟨S0, 0, none⟩ = some (.int .i64 a.1) ∧ V.cell? ⟨S0, 1, none⟩ = some (.int .i64 a.2) := by rw [hV, hS0]; simp [go_sem]
  have x1 : V.cell? ⟨S1, 0, none⟩ = some (.int .i64 b.1) ∧ V.cell? ⟨S1, 1, none⟩ = some (.int .i64 b.2) := by rw [hV, hS1]; simp [go_sem]
  have x2 : V.cell? ⟨S2, 0, none⟩ = some (.int .i64 c.1) ∧ V.cell? ⟨S2, 1, none⟩ = some (.int .i64 c.2) := by rw [hV, hS2]; simp [go_sem]
  have x3 : V.cell? ⟨S3, 0, none⟩ = some (.int .i64 d.1) ∧ V.cell? ⟨S3, 1, none⟩ = some (.int .i64 d.2) := by rw [hV, hS3]; simp [go_sem]
  have hbV : Below w.heap.size w V := by rw [hV]; exact (by repeat (first | assumption | exact Below.refl _ _ | (refine below_chain ?_ (by assumption) (by first | omega | (simp <;> omega) | simp)) | (refine Below.alloc ?_ (by first | omega | (simp <;> omega) | simp) _) | (apply below_drewN) | (apply below_drew) | (refine Below.setCell ?_ (by first | omega | (simp <;> omega) | simp) _)))
  have hsV : V.heap.size = w.heap.size + 4 := by rw [hV]; simp
  rw [← hV, ← hS3, ← hS2, ← hS1, ← hS0]
  obtain ⟨x00, x01⟩ := x0
  obtain ⟨x10, x11⟩ := x1
  obtain ⟨x20, x21⟩ := x2
  obtain ⟨x30, x31⟩ := x3
  have q0 : S0 < V.heap.size := by omega
  have q1 : S1 < V.heap.size := by omega
  have q2 : S2 < V.heap.size := by omega
  have q3 : S3 < V.heap.size := by omega
  have hwV : w.heap.size ≤ V.heap.size := by omega
  clear hV hS0 hS1 hS2 hS3 key hsV
  cases b1
  · cases b2
    · cases b3
      · cases b4
        · go_wp2_with (first | ((go_at_call 63; (with_reducible refine ((c1 _).out).mono ?_); rintro e wa ⟨rfl, hb_wa⟩; have hs_wa := hb_wa.size; (try simp at hs_wa)); obtain ⟨hc_wa, hf_wa⟩ := bcell hb_wa; (have q0_wa : S0 < wa.heap.size := by omega); (have q1_wa : S1 < wa.heap.size := by omega); (have q2_wa : S2 < wa.heap.size := by omega); (have q3_wa : S3 < wa.heap.size := by omega)) | ((go_at_call 63; (with_reducible refine ((c2 _).out).mono ?_); rintro e wb ⟨rfl, hb_wb⟩; have hs_wb := hb_wb.size; (try simp at hs_wb)); obtain ⟨hc_wb, hf_wb⟩ := bcell hb_wb; (have q0_wb : S0 < wb.heap.size := by omega); (have q1_wb : S1 < wb.heap.size := by omega); (have q2_wb : S2 < wb.heap.size := by omega); (have q3_wb : S3 < wb.heap.size := by omega)) | ((go_at_call 63; (with_reducible refine ((c3 _).out).mono ?_); rintro e wc ⟨rfl, hb_wc⟩; have hs_wc := hb_wc.size; (try simp at hs_wc)); obtain ⟨hc_wc, hf_wc⟩ := bcell hb_wc; (have q0_wc : S0 < wc.heap.size := by omega); (have q1_wc : S1 < wc.heap.size := by omega); (have q2_wc : S2 < wc.heap.size := by omega); (have q3_wc : S3 < wc.heap.size := by omega)) | ((go_at_call 63; (with_reducible refine ((c4 _).out).mono ?_); rintro e wd ⟨rfl, hb_wd⟩; have hs_wd := hb_wd.size; (try simp at hs_wd)); obtain ⟨hc_wd, hf_wd⟩ := bcell hb_wd; (have q0_wd : S0 < wd.heap.size := by omega); (have q1_wd : S1 < wd.heap.size := by omega); (have q2_wd : S2 < wd.heap.size := by omega); (have q3_wd : S3 < wd.heap.size := by omega)))
          have hbd : Below w.heap.size w wd := (by repeat (first | assumption | exact Below.refl _ _ | (refine below_chain ?_ (by assumption) (by first | omega | (simp <;> omega) | simp)) | (refine Below.alloc ?_ (by first | omega | (simp <;> omega) | simp) _) | (apply below_drewN) | (apply below_drew) | (refine Below.setCell ?_ (by first | omega | (simp <;> omega) | simp) _)))
          have e0 : wd.cell? ⟨S0, 0, none⟩ = some (.int .i64 a.1) ∧ wd.cell? ⟨S0, 1, none⟩ = some (.int .i64 a.2) := by rw [hc_wd _ _ (by omega), hc_wd _ _ (by omega), hc_wc _ _ (by omega), hc_wc _ _ (by omega), hc_wb _ _ (by omega), hc_wb _ _ (by omega), hc_wa _ _ q0, hc_wa _ _ q0]; exact ⟨x00, x01⟩
          have e1 : wd.cell? ⟨S1, 0, none⟩ = some (.int .i64 b.1) ∧ wd.cell? ⟨S1, 1, none⟩ = some (.int .i64 b.2) := by rw [hc_wd _ _ (by omega), hc_wd _ _ (by omega), hc_wc _ _ (by omega), hc_wc _ _ (by omega), hc_wb _ _ (by omega), hc_wb _ _ (by omega), hc_wa _ _ q1, hc_wa _ _ q1]; exact ⟨x10, x11⟩
          have e2 : wd.cell? ⟨S2, 0, none⟩ = some (.int .i64 c.1) ∧ wd.cell? ⟨S2, 1, none⟩ = some (.int .i64 c.2) := by rw [hc_wd _ _ (by omega), hc_wd _ _ (by omega), hc_wc _ _ (by omega), hc_wc _ _ (by omega), hc_wb _ _ (by omega), hc_wb _ _ (by omega), hc_wa _ _ q2, hc_wa _ _ q2]; exact ⟨x20, x21⟩
          have e3 : wd.cell? ⟨S3, 0, none⟩ = some (.int .i64 d.1) ∧ wd.cell? ⟨S3, 1, none⟩ = some (.int .i64 d.2) := by rw [hc_wd _ _ (by omega), hc_wd _ _ (by omega), hc_wc _ _ (by omega), hc_wc _ _ (by omega), hc_wb _ _ (by omega), hc_wb _ _ (by omega), hc_wa _ _ q3, hc_wa _ _ q3]; exact ⟨x30, x31⟩
          obtain ⟨e00, e01⟩ := e0
          obtain ⟨e10, e11⟩ := e1
          obtain ⟨e20, e21⟩ := e2
          obtain ⟨e30, e31⟩ := e3
          clear hc_wa hc_wb hc_wc hc_wd hf_wa hf_wb hf_wc hf_wd hb_wa hb_wb hb_wc hb_wd x00 x01 x10 x11 x20 x21 x30 x31 hbV
          by_cases hn : s1 * s2 < 0
          · (refine wp_region_grows (by kernel_rfl) (by kernel_rfl) ?_; intro W_wg hWc_wg hWs_wg hWe_wg; (repeat (go_big_quiet_step ((first | (go_at_call 79; with_reducible exact Ext.call ((c5 _).out)) | (go_at_call 79; with_reducible exact Ext.call ((c6 _).out)) | (go_at_call 79; with_reducible exact Ext.call ((c7 _).out)) | (go_at_call 79; with_reducible exact Ext.call ((c8 _).out)))))); with_reducible refine wpQuiet_nil ?_; clear hWe_wg hWs_wg hWc_wg W_wg; intro wg hb_wg; obtain ⟨hc_wg, hf_wg⟩ := bcell hb_wg; (try simp only [World.size_drew, World.cell?_drew, World.frozen?_drew, World.heap_drewN, World.cell?_drewN, World.frozen?_drewN] at hc_wg hf_wg); have hs_wg := hb_wg.size; (try simp at hs_wg))
            go_wp2_with fail
            go_ret
            exact ⟨ret_bool (by simp [hn]), (by repeat (first | assumption | exact Below.refl _ _ | (refine below_chain ?_ (by assumption) (by first | omega | (simp <;> omega) | simp)) | (refine Below.alloc ?_ (by first | omega | (simp <;> omega) | simp) _) | (apply below_drewN) | (apply below_drew) | (refine Below.setCell ?_ (by first | omega | (simp <;> omega) | simp) _)))⟩
          · (refine wp_region_grows (by kernel_rfl) (by kernel_rfl) ?_; intro W_wg hWc_wg hWs_wg hWe_wg; (repeat (go_big_quiet_step ((first | (go_at_call 79; with_reducible exact Ext.call ((c5 _).out)) | (go_at_call 79; with_reducible exact Ext.call ((c6 _).out)) | (go_at_call 79; with_reducible exact Ext.call ((c7 _).out)) | (go_at_call 79; with_reducible exact Ext.call ((c8 _).out)))))); with_reducible refine wpQuiet_nil ?_; clear hWe_wg hWs_wg hWc_wg W_wg; intro wg hb_wg; obtain ⟨hc_wg, hf_wg⟩ := bcell hb_wg; (try simp only [World.size_drew, World.cell?_drew, World.frozen?_drew, World.heap_drewN, World.cell?_drewN, World.frozen?_drewN] at hc_wg hf_wg); have hs_wg := hb_wg.size; (try simp at hs_wg))
            go_wp2_with fail
            go_ret
            exact ⟨ret_bool (by simp; intro hh; omega), (by repeat (first | assumption | exact Below.refl _ _ | (refine below_chain ?_ (by assumption) (by first | omega | (simp <;> omega) | simp)) | (refine Below.alloc ?_ (by first | omega | (simp <;> omega) | simp) _) | (apply below_drewN) | (apply below_drew) | (refine Below.setCell ?_ (by first | omega | (simp <;> omega) | simp) _)))⟩
        · go_wp2_with (first | ((go_at_call 63; (with_reducible refine ((c1 _).out).mono ?_); rintro e wa ⟨rfl, hb_wa⟩; have hs_wa := hb_wa.size; (try simp at hs_wa)); obtain ⟨hc_wa, hf_wa⟩ := bcell hb_wa; (have q0_wa : S0 < wa.heap.size := by omega); (have q1_wa : S1 < wa.heap.size := by omega); (have q2_wa : S2 < wa.heap.size := by omega); (have q3_wa : S3 < wa.heap.size := by omega)) | ((go_at_call 63; (with_reducible refine ((c2 _).out).mono ?_); rintro e wb ⟨rfl, hb_wb⟩; have hs_wb := hb_wb.size; (try simp at hs_wb)); obtain ⟨hc_wb, hf_wb⟩ := bcell hb_wb; (have q0_wb : S0 < wb.heap.size := by omega); (have q1_wb : S1 < wb.heap.size := by omega); (have q2_wb : S2 < wb.heap.size := by omega); (have q3_wb : S3 < wb.heap.size := by omega)) | ((go_at_call 63; (with_reducible refine ((c3 _).out).mono ?_); rintro e wc ⟨rfl, hb_wc⟩; have hs_wc := hb_wc.size; (try simp at hs_wc)); obtain ⟨hc_wc, hf_wc⟩ := bcell hb_wc; (have q0_wc : S0 < wc.heap.size := by omega); (have q1_wc : S1 < wc.heap.size := by omega); (have q2_wc : S2 < wc.heap.size := by omega); (have q3_wc : S3 < wc.heap.size := by omega)) | ((go_at_call 63; (with_reducible refine ((c4 _).out).mono ?_); rintro e wd ⟨rfl, hb_wd⟩; have hs_wd := hb_wd.size; (try simp at hs_wd)); obtain ⟨hc_wd, hf_wd⟩ := bcell hb_wd; (have q0_wd : S0 < wd.heap.size := by omega); (have q1_wd : S1 < wd.heap.size := by omega); (have q2_wd : S2 < wd.heap.size := by omega); (have q3_wd : S3 < wd.heap.size := by omega)))
          go_ret
          exact ⟨rfl, (by repeat (first | assumption | exact Below.refl _ _ | (refine below_chain ?_ (by assumption) (by first | omega | (simp <;> omega) | simp)) | (refine Below.alloc ?_ (by first | omega | (simp <;> omega) | simp) _) | (apply below_drewN) | (apply below_drew) | (refine Below.setCell ?_ (by first | omega | (simp <;> omega) | simp) _)))⟩
      · go_wp2_with (first | ((go_at_call 63; (with_reducible refine ((c1 _).out).mono ?_); rintro e wa ⟨rfl, hb_wa⟩; have hs_wa := hb_wa.size; (try simp at hs_wa)); obtain ⟨hc_wa, hf_wa⟩ := bcell hb_wa; (have q0_wa : S0 < wa.heap.size := by omega); (have q1_wa : S1 < wa.heap.size := by omega); (have q2_wa : S2 < wa.heap.size := by omega); (have q3_wa : S3 < wa.heap.size := by omega)) | ((go_at_call 63; (with_reducible refine ((c2 _).out).mono ?_); rintro e wb ⟨rfl, hb_wb⟩; have hs_wb := hb_wb.size; (try simp at hs_wb)); obtain ⟨hc_wb, hf_wb⟩ := bcell hb_wb; (have q0_wb : S0 < wb.heap.size := by omega); (have q1_wb : S1 < wb.heap.size := by omega); (have q2_wb : S2 < wb.heap.size := by omega); (have q3_wb : S3 < wb.heap.size := by omega)) | ((go_at_call 63; (with_reducible refine ((c3 _).out).mono ?_); rintro e wc ⟨rfl, hb_wc⟩; have hs_wc := hb_wc.size; (try simp at hs_wc)); obtain ⟨hc_wc, hf_wc⟩ := bcell hb_wc; (have q0_wc : S0 < wc.heap.size := by omega); (have q1_wc : S1 < wc.heap.size := by omega); (have q2_wc : S2 < wc.heap.size := by omega); (have q3_wc : S3 < wc.heap.size := by omega)) | ((go_at_call 63; (with_reducible refine ((c4 _).out).mono ?_); rintro e wd ⟨rfl, hb_wd⟩; have hs_wd := hb_wd.size; (try simp at hs_wd)); obtain ⟨hc_wd, hf_wd⟩ := bcell hb_wd; (have q0_wd : S0 < wd.heap.size := by omega); (have q1_wd : S1 < wd.heap.size := by omega); (have q2_wd : S2 < wd.heap.size := by omega); (have q3_wd : S3 < wd.heap.size := by omega)))
        go_ret
        exact ⟨rfl, (by repeat (first | assumption | exact Below.refl _ _ | (refine below_chain ?_ (by assumption) (by first | omega | (simp <;> omega) | simp)) | (refine Below.alloc ?_ (by first | omega | (simp <;> omega) | simp) _) | (apply below_drewN) | (apply below_drew) | (refine Below.setCell ?_ (by first | omega | (simp <;> omega) | simp) _)))⟩
    · go_wp2_with (first | ((go_at_call 63; (with_reducible refine ((c1 _).out).mono ?_); rintro e wa ⟨rfl, hb_wa⟩; have hs_wa := hb_wa.size; (try simp at hs_wa)); obtain ⟨hc_wa, hf_wa⟩ := bcell hb_wa; (have q0_wa : S0 < wa.heap.size := by omega); (have q1_wa : S1 < wa.heap.size := by omega); (have q2_wa : S2 < wa.heap.size := by omega); (have q3_wa : S3 < wa.heap.size := by omega)) | ((go_at_call 63; (with_reducible refine ((c2 _).out).mono ?_); rintro e wb ⟨rfl, hb_wb⟩; have hs_wb := hb_wb.size; (try simp at hs_wb)); obtain ⟨hc_wb, hf_wb⟩ := bcell hb_wb; (have q0_wb : S0 < wb.heap.size := by omega); (have q1_wb : S1 < wb.heap.size := by omega); (have q2_wb : S2 < wb.heap.size := by omega); (have q3_wb : S3 < wb.heap.size := by omega)) | ((go_at_call 63; (with_reducible refine ((c3 _).out).mono ?_); rintro e wc ⟨rfl, hb_wc⟩; have hs_wc := hb_wc.size; (try simp at hs_wc)); obtain ⟨hc_wc, hf_wc⟩ := bcell hb_wc; (have q0_wc : S0 < wc.heap.size := by omega); (have q1_wc : S1 < wc.heap.size := by omega); (have q2_wc : S2 < wc.heap.size := by omega); (have q3_wc : S3 < wc.heap.size := by omega)) | ((go_at_call 63; (with_reducible refine ((c4 _).out).mono ?_); rintro e wd ⟨rfl, hb_wd⟩; have hs_wd := hb_wd.size; (try simp at hs_wd)); obtain ⟨hc_wd, hf_wd⟩ := bcell hb_wd; (have q0_wd : S0 < wd.heap.size := by omega); (have q1_wd : S1 < wd.heap.size := by omega); (have q2_wd : S2 < wd.heap.size := by omega); (have q3_wd : S3 < wd.heap.size := by omega)))
      go_ret
      exact ⟨rfl, (by repeat (first | assumption | exact Below.refl _ _ | (refine below_chain ?_ (by assumption) (by first | omega | (simp <;> omega) | simp)) | (refine Below.alloc ?_ (by first | omega | (simp <;> omega) | simp) _) | (apply below_drewN) | (apply below_drew) | (refine Below.setCell ?_ (by first | omega | (simp <;> omega) | simp) _)))⟩
  · go_wp2_with (first | ((go_at_call 63; (with_reducible refine ((c1 _).out).mono ?_); rintro e wa ⟨rfl, hb_wa⟩; have hs_wa := hb_wa.size; (try simp at hs_wa)); obtain ⟨hc_wa, hf_wa⟩ := bcell hb_wa; (have q0_wa : S0 < wa.heap.size := by omega); (have q1_wa : S1 < wa.heap.size := by omega); (have q2_wa : S2 < wa.heap.size := by omega); (have q3_wa : S3 < wa.heap.size := by omega)) | ((go_at_call 63; (with_reducible refine ((c2 _).out).mono ?_); rintro e wb ⟨rfl, hb_wb⟩; have hs_wb := hb_wb.size; (try simp at hs_wb)); obtain ⟨hc_wb, hf_wb⟩ := bcell hb_wb; (have q0_wb : S0 < wb.heap.size := by omega); (have q1_wb : S1 < wb.heap.size := by omega); (have q2_wb : S2 < wb.heap.size := by omega); (have q3_wb : S3 < wb.heap.size := by omega)) | ((go_at_call 63; (with_reducible refine ((c3 _).out).mono ?_); rintro e wc ⟨rfl, hb_wc⟩; have hs_wc := hb_wc.size; (try simp at hs_wc)); obtain ⟨hc_wc, hf_wc⟩ := bcell hb_wc; (have q0_wc : S0 < wc.heap.size := by omega); (have q1_wc : S1 < wc.heap.size := by omega); (have q2_wc : S2 < wc.heap.size := by omega); (have q3_wc : S3 < wc.heap.size := by omega)) | ((go_at_call 63; (with_reducible refine ((c4 _).out).mono ?_); rintro e wd ⟨rfl, hb_wd⟩; have hs_wd := hb_wd.size; (try simp at hs_wd)); obtain ⟨hc_wd, hf_wd⟩ := bcell hb_wd; (have q0_wd : S0 < wd.heap.size := by omega); (have q1_wd : S1 < wd.heap.size := by omega); (have q2_wd : S2 < wd.heap.size := by omega); (have q3_wd : S3 < wd.heap.size := by omega)))
    go_ret
    exact ⟨rfl, (by repeat (first | assumption | exact Below.refl _ _ | (refine below_chain ?_ (by assumption) (by first | omega | (simp <;> omega) | simp)) | (refine Below.alloc ?_ (by first | omega | (simp <;> omega) | simp) _) | (apply below_drewN) | (apply below_drew) | (refine Below.setCell ?_ (by first | omega | (simp <;> omega) | simp) _)))⟩
/-- the next corner's number as both programs reckon it -/
theorem rem_next {n k : Nat} (hk : k < n) : ((k : Int) + 1).tmod (n : Int) = (((k + 1) % n : Nat) : Int) := by
  rw [Int.tmod_eq_emod_of_nonneg (by omega)]; simp
theorem rem_next2 {n k : Nat} (hk : k < n) : ((k : Int) + 2).tmod (n : Int) = (((k + 2) % n : Nat) : Int) := by
  rw [Int.tmod_eq_emod_of_nonneg (by omega)]; simp
section
variable {p : Option Addr} {c : Nat} {L : List P2} {w : World}
theorem sPoints (h : Ints w p (fl L)) (hl : L.length ≤ 4000000000000000000) :
    Calls Try.prog 62 #[.slice p L.length c] w fun e w' => e = .returned (.bool (okP L)) ∧ Below w.heap.size w w' := by
  have H := Lib.hid h
  obtain ⟨bl, hbl⟩ : ∃ b, decide ((3 : Int) ≤ L.length ∧ (L.length : Int) ≤ 12) = b := ⟨_, rfl⟩
  have cl := fun w => Lib.hid (in_is (L.length : Int) 3 12 bl w hbl)
  obtain ⟨ok, hok⟩ : ∃ b, okP L = b := ⟨_, rfl⟩
  rw [hok]
  have HK := Lib.hid (And.intro hok hbl)
  clear h hbl hok
  go_enter Try.func62, Try.ntmps62
  go_wp2_with fail
  go_loopw [3] (fun i wr => ∃ k : Nat, k ≤ L.length ∧ i = .int .i64 k ∧ Hid (∀ j, j < k → pvP (cy L j) = true) ∧ Below w.heap.size w wr) (fun i _ => L.length - (intOf i).toNat)
  case atStart => exact ⟨0, Nat.zero_le _, rfl, Lib.hid (fun j hj => by omega), (by repeat (first | assumption | exact Below.refl _ _ | (refine below_chain ?_ (by assumption) (by first | omega | (simp <;> omega) | simp)) | (refine Below.alloc ?_ (by first | omega | (simp <;> omega) | simp) _) | (apply below_drewN) | (apply below_drew) | (refine Below.setCell ?_ (by first | omega | (simp <;> omega) | simp) _)))⟩
  case round =>
    obtain ⟨k, hk, rfl, hv, hb⟩ := hrel
    have hbs := hb.size
    by_cases hlt : k < L.length
    · obtain ⟨B, o, rfl, hB, c0, c1⟩ := (H.out.below hb).pt hlt
      by_cases hp : pvP (cy L k) = true
      · have cv := fun w => Lib.hid (spv_is (cy L k).1 (cy L k).2 true w hp)
        have hn2 : Hid (∀ j, j < k + 1 → pvP (cy L j) = true) := Lib.hid (fun j hj => by
          by_cases e : j = k
          · subst e; exact hp
          · exact hv.out j (by omega))
        clear hp
        go_wp2_with ((go_at_call 87; (with_reducible refine ((cv _).out).mono ?_); rintro e wn ⟨rfl, hb_wn⟩; have hs_wn := hb_wn.size; (try simp at hs_wn)))
        go_roundw
        case rel => exact ⟨k + 1, by omega, by go_num, hn2, (by repeat (first | assumption | exact Below.refl _ _ | (refine below_chain ?_ (by assumption) (by first | omega | (simp <;> omega) | simp)) | (refine Below.alloc ?_ (by first | omega | (simp <;> omega) | simp) _) | (apply below_drewN) | (apply below_drew) | (refine Below.setCell ?_ (by first | omega | (simp <;> omega) | simp) _)))⟩
        case measure => simp [intOf]; omega
      · have hp' : pvP (cy L k) = false := by simpa using hp
        have cv := fun w => Lib.hid (spv_is (cy L k).1 (cy L k).2 false w hp')
        have hn2 : Hid (ok = false) := Lib.hid (by rw [← HK.out.1]; exact okP_no hlt hp')
        clear hp hp'
        go_wp2_with ((go_at_call 87; (with_reducible refine ((cv _).out).mono ?_); rintro e wn ⟨rfl, hb_wn⟩; have hs_wn := hb_wn.size; (try simp at hs_wn)))
        go_ret
        exact ⟨ret_bool hn2.out.symm, (by repeat (first | assumption | exact Below.refl _ _ | (refine below_chain ?_ (by assumption) (by first | omega | (simp <;> omega) | simp)) | (refine Below.alloc ?_ (by first | omega | (simp <;> omega) | simp) _) | (apply below_drewN) | (apply below_drew) | (refine Below.setCell ?_ (by first | omega | (simp <;> omega) | simp) _)))⟩
    · have e : k = L.length := by omega
      subst e
      have hbk : bl = ok := by
        rw [← HK.out.1, ← HK.out.2]
        by_cases hh : 3 ≤ L.length ∧ L.length ≤ 12
        · rw [okP_of hh.1 hh.2 hv.out, decide_eq_true (by omega)]
        · rw [okP_short hh, decide_eq_false (by omega)]
      subst hbk
      go_wp2_with ((go_at_call 100; (with_reducible refine ((cl _).out).mono ?_); rintro e w' ⟨rfl, rfl⟩))
      go_ret
      exact ⟨rfl, (by repeat (first | assumption | exact Below.refl _ _ | (refine below_chain ?_ (by assumption) (by first | omega | (simp <;> omega) | simp)) | (refine Below.alloc ?_ (by first | omega | (simp <;> omega) | simp) _) | (apply below_drewN) | (apply below_drew) | (refine Below.setCell ?_ (by first | omega | (simp <;> omega) | simp) _)))⟩
end
end Go.Proofs.Ytgncjpakclbegaa
namespace Go.Proofs.Ytgncjpakclbegaa
open Go.RowKit Poly
set_option linter.unusedVariables false

section
variable {p : Option Addr} {c : Nat} {L : List P2} {w : World}
/-- a corner and the next one are read -/
theorem Ints.two (h : Ints w p (fl L)) {k : Nat} (hlt : k < L.length) : ∃ B o m, p = some ⟨B, o, none⟩ ∧ B < w.heap.size ∧ (w.cell? ⟨B, o + k * 2, none⟩ = some (.int .i64 (cy L k).1) ∧ w.cell? ⟨B, o + k * 2 + 1, none⟩ = some (.int .i64 (cy L k).2)) ∧ m < L.length ∧ ((k : Int) + 1).tmod (L.length : Int) = (m : Int) ∧
    (w.cell? ⟨B, o + m * 2, none⟩ = some (.int .i64 (cy L (k + 1)).1) ∧ w.cell? ⟨B, o + m * 2 + 1, none⟩ = some (.int .i64 (cy L (k + 1)).2)) ∧ m = (k + 1) % L.length := by
  obtain ⟨B, o, rfl, hB, c0, c1⟩ := h.pt hlt
  have hml : (k + 1) % L.length < L.length := Nat.mod_lt _ (by omega)
  obtain ⟨B', o', e', hB', d0, d1⟩ := h.pt hml
  simp at e'
  obtain ⟨rfl, rfl⟩ := e'
  rw [cy_mod] at d0 d1
  exact ⟨B, o, _, rfl, hB, ⟨c0, c1⟩, hml, rem_next hlt, ⟨d0, d1⟩, rfl⟩
theorem lCrossP {a b : P2} (ha : pvP a = true) (hb : pvP b = true) (w : World) :
    Calls Try.prog 105 #[.agg #[.int .i64 a.1, .int .i64 a.2], .agg #[.int .i64 b.1, .int .i64 b.2]] w fun e w' => e = .returned (.int .i64 (crP a b)) ∧ Below w.heap.size w w' :=
  l2Cross_any a.1 a.2 b.1 b.2 w (sv_pv ha) (sv_pv hb)
set_option maxHeartbeats 2000000 in
theorem sArea (h : Ints w p (fl L)) (hok : okP L = true) :
    Calls Try.prog 72 #[.slice p L.length c] w fun e w' => e = .returned (.int .i64 (areaL L)) ∧ Below w.heap.size w w' := by
  have H := Lib.hid (And.intro h hok)
  obtain ⟨hl3, hl12⟩ := okP_len hok
  clear h hok
  go_enter Try.func72, Try.ntmps72
  go_wp2_with fail
  go_loopw [3, 4] (fun s i wr => ∃ k : Nat, k ≤ L.length ∧ i = .int .i64 k ∧ s = .int .i64 (sumF (fun i => crP (cy L i) (cy L (i + 1))) k) ∧ Below w.heap.size w wr) (fun _ i _ => L.length - (intOf i).toNat)
  case atStart => exact ⟨0, Nat.zero_le _, rfl, rfl, (by repeat (first | assumption | exact Below.refl _ _ | (refine below_chain ?_ (by assumption) (by first | omega | (simp <;> omega) | simp)) | (refine Below.alloc ?_ (by first | omega | (simp <;> omega) | simp) _) | (apply below_drewN) | (apply below_drew) | (refine Below.setCell ?_ (by first | omega | (simp <;> omega) | simp) _)))⟩
  case round =>
    obtain ⟨k, hk, rfl, rfl, hb⟩ := hrel
    have hbs := hb.size
    have hv := okP_at H.out.2
    have hsm := area_to H.out.2 k (by omega)
    by_cases hlt : k < L.length
    · obtain ⟨B, o, m, rfl, hB, ⟨c0, c1⟩, hml, hrem, ⟨d0, d1⟩, hm⟩ := (H.out.1.below hb).two hlt
      have hlt' : (k : Int) < (L.length : Int) := by omega
      have hml' : (m : Int) < (L.length : Int) := by omega
      have cc := fun w => Lib.hid (lCrossP (hv k) (hv (k + 1)) w)
      have hcb := crP_bd (hv k) (hv (k + 1))
      have hsn : Hid (sumF (fun i => crP (cy L i) (cy L (i + 1))) (k + 1) = sumF (fun i => crP (cy L i) (cy L (i + 1))) k + crP (cy L k) (cy L (k + 1))) := Lib.hid rfl
      generalize crP (cy L k) (cy L (k + 1)) = t at *
      obtain ⟨s, hs⟩ : ∃ s, sumF (fun i => crP (cy L i) (cy L (i + 1))) k = s := ⟨_, rfl⟩
      rw [hs] at hsm hsn ⊢
      clear hv hm hs
      have hb0 : w.heap.size ≤ wr.heap.size := hbs
      go_wp2_with fail
      (refine wp_region_grows (by kernel_rfl) (by kernel_rfl) ?_; intro W_wg hWc_wg hWs_wg hWe_wg; (repeat (go_big_quiet_step ((go_at_call 105; with_reducible exact Ext.call ((cc _).out))))); with_reducible refine wpQuiet_nil ?_; clear hWe_wg hWs_wg hWc_wg W_wg; intro wg hb_wg; obtain ⟨hc_wg, hf_wg⟩ := bcell hb_wg; (try simp only [World.size_drew, World.cell?_drew, World.frozen?_drew, World.heap_drewN, World.cell?_drewN, World.frozen?_drewN] at hc_wg hf_wg); have hs_wg := hb_wg.size; (try simp at hs_wg))
      go_wp2_with fail
      go_roundw
      case rel => exact ⟨k + 1, by omega, by go_num, by rw [hsn.out], (by repeat (first | assumption | exact Below.refl _ _ | (refine below_chain ?_ (by assumption) (by first | omega | (simp <;> omega) | simp)) | (refine Below.alloc ?_ (by first | omega | (simp <;> omega) | simp) _) | (apply below_drewN) | (apply below_drew) | (refine Below.setCell ?_ (by first | omega | (simp <;> omega) | simp) _)))⟩
      case measure => simp [intOf]; omega
    · have e : k = L.length := by omega
      subst e
      have hlt' : ¬ (L.length : Int) < (L.length : Int) := by omega
      clear hv
      go_wp2_with fail
      go_ret
      exact ⟨rfl, (by repeat (first | assumption | exact Below.refl _ _ | (refine below_chain ?_ (by assumption) (by first | omega | (simp <;> omega) | simp)) | (refine Below.alloc ?_ (by first | omega | (simp <;> omega) | simp) _) | (apply below_drewN) | (apply below_drew) | (refine Below.setCell ?_ (by first | omega | (simp <;> omega) | simp) _)))⟩
end
end Go.Proofs.Ytgncjpakclbegaa
namespace Go.Proofs.Ytgncjpakclbegaa
open Go.RowKit Poly
set_option linter.unusedVariables false

section
variable {p : Option Addr} {c : Nat} {L : List P2} {w : World}
/-- equal corners are on each other's sides -/
theorem on_left (a b : P2) : onP a b a = true := by
  unfold onP Pt.onB Pt.cr
  refine decide_eq_true ⟨by simp, ?_, ?_, ?_, ?_⟩ <;> omega
theorem on_right (a b : P2) : onP a b b = true := by
  unfold onP Pt.onB Pt.cr
  refine decide_eq_true ⟨by rw [Int.mul_comm]; omega, ?_, ?_, ?_, ?_⟩ <;> omega
theorem clash_eq1 {i : Nat} (h : cy L (i + 1) = cy L i) : clash L i (i + 1) = true := by
  unfold clash
  rw [if_pos rfl, h, on_left]; simp
theorem clash_eq2 {i : Nat} (h : cy L (i + 2) = cy L (i + 1)) : clash L i (i + 1) = true := by
  unfold clash
  rw [if_pos rfl, show i + 1 + 1 = i + 2 from rfl, h, on_right]; simp
set_option maxHeartbeats 8000000 in
set_option maxRecDepth 100000 in
theorem sPolyValid_ok (h : Ints w p (fl L)) (hok : okP L = true) :
    Calls Try.prog 19 #[.slice p L.length c] w fun e w' => e = .returned (.bool (simple L)) ∧ Below w.heap.size w w' := by
  have c0 := fun w h => Lib.hid (sPoints (p := p) (c := c) (L := L) (w := w) h (by have := okP_len hok; omega))
  rw [hok] at c0
  have H := Lib.hid (And.intro h hok)
  obtain ⟨hl3, hl12⟩ := okP_len hok
  clear h hok
  go_enter Try.func19, Try.ntmps19
  go_wp2_with ((go_at_call 62; (with_reducible refine ((c0 _ ?_).out).mono ?_); (focus ((exact H.out.1); done)); rintro e wa ⟨rfl, hb_wa⟩; have hs_wa := hb_wa.size; (try simp at hs_wa)))
  have HA := Lib.hid hb_wa
  clear hb_wa hs_wa c0
  go_loopw [4] (fun i wr => ∃ j : Nat, j ≤ L.length ∧ i = .int .i64 j ∧ Hid (∀ a k, a < j → a < k → k < L.length → clash L a k = false) ∧ Below w.heap.size w wr) (fun i _ => L.length - (intOf i).toNat)
  case atStart => exact ⟨0, Nat.zero_le _, rfl, Lib.hid (fun a k h => by omega), HA.out⟩
  case round =>
    clear HA
    obtain ⟨j, hj, rfl, hcl, hb⟩ := hrel
    rename World => wo
    have HB := Lib.hid hb
    have hbo := hb.size
    clear hb
    by_cases hlt : j < L.length
    · have hlt' : (j : Int) < (L.length : Int) := by omega
      go_wp2_with fail
      go_loopw [5] (fun k wr => ∃ q : Nat, j < q ∧ q ≤ L.length ∧ k = .int .i64 q ∧ Hid (∀ k, j < k → k < q → clash L j k = false) ∧ Below wo.heap.size wo wr) (fun k _ => L.length - (intOf k).toNat)
      case atStart => exact ⟨j + 1, by omega, by omega, by go_num, Lib.hid (fun k h1 h2 => by omega), Below.refl _ _⟩
      case round =>
        obtain ⟨q, hjq, hq, rfl, hcq, hb⟩ := hrel
        rename World => wi
        have hbs := hb.size
        by_cases hql : q < L.length
        · have hql' : (q : Int) < (L.length : Int) := by omega
          obtain ⟨B, o, m, rfl, hB, ⟨a0, a1⟩, hml, hrem, ⟨b0, b1⟩, hm⟩ := ((H.out.1.below HB.out).below hb).two hlt
          obtain ⟨B', o', m', e', hB', ⟨g0, g1⟩, hml2, hrem2, ⟨d0, d1⟩, hm2⟩ := ((H.out.1.below HB.out).below hb).two hql
          simp at e'
          obtain ⟨rfl, rfl⟩ := e'
          subst hm
          subst hm2
          have hi1 : 0 ≤ ((j : Int) + 1) % (L.length : Int) ∧ ((j : Int) + 1) % (L.length : Int) < (L.length : Int) := ⟨Int.emod_nonneg _ (by omega), Int.emod_lt_of_pos _ (by omega)⟩
          have hi2 : 0 ≤ ((q : Int) + 1) % (L.length : Int) ∧ ((q : Int) + 1) % (L.length : Int) < (L.length : Int) := ⟨Int.emod_nonneg _ (by omega), Int.emod_lt_of_pos _ (by omega)⟩
          have hBa : B < wi.heap.size + 1 := by omega
          have hBb : B < wi.heap.size + 1 + 1 := by omega
          have hBc : B < wi.heap.size + 1 + 1 + 1 := by omega
          have hv := okP_at H.out.2
          obtain ⟨t1, h1⟩ : ∃ b, onP (cy L j) (cy L (j + 1)) (cy L (q + 1)) = b := ⟨_, rfl⟩
          obtain ⟨t2, h2⟩ : ∃ b, onP (cy L q) (cy L (q + 1)) (cy L j) = b := ⟨_, rfl⟩
          obtain ⟨t3, h3⟩ : ∃ b, onP (cy L q) (cy L (q + 1)) (cy L (j + 1)) = b := ⟨_, rfl⟩
          obtain ⟨t4, h4⟩ : ∃ b, onP (cy L j) (cy L (j + 1)) (cy L q) = b := ⟨_, rfl⟩
          obtain ⟨t5, h5⟩ : ∃ b, meet (cy L j) (cy L (j + 1)) (cy L q) (cy L (q + 1)) = b := ⟨_, rfl⟩
          have c1 := fun w => Lib.hid (sOnP (hv j) (hv (j + 1)) (hv (q + 1)) h1 w)
          have c2 := fun w => Lib.hid (sOnP (hv q) (hv (q + 1)) (hv j) h2 w)
          have c3 := fun w => Lib.hid (sOnP (hv q) (hv (q + 1)) (hv (j + 1)) h3 w)
          have c4 := fun w => Lib.hid (sOnP (hv j) (hv (j + 1)) (hv q) h4 w)
          have c5 := fun w => Lib.hid (sMeet (hv j) (hv (j + 1)) (hv q) (hv (q + 1)) w)
          simp only [h5] at c5
          have hno : clash L j q = true → simple L = false := fun h => simple_no hjq hql h
          have hnx : clash L j q = false → Hid (∀ k, j < k → k < q + 1 → clash L j k = false) := fun h => Lib.hid (fun k g1 g2 => by
            by_cases e : k = q
            · subst e; exact h
            · exact hcq.out k g1 (by omega))
          have HX := Lib.hid (And.intro hno (And.intro hnx (And.intro hb (And.intro hcl hcq))))
          clear hv hno hnx hb hcl hcq
          go_upto_region 16 with fail
          obtain ⟨V, hV⟩ : ∃ V, V = (((wi.alloc (.cells #[.int .i64 (cy L j).1, .int .i64 (cy L j).2] 31)).alloc (.cells #[.int .i64 (cy L (j + 1)).1, .int .i64 (cy L (j + 1)).2] 31)).alloc (.cells #[.int .i64 (cy L q).1, .int .i64 (cy L q).2] 31)).alloc (.cells #[.int .i64 (cy L (q + 1)).1, .int .i64 (cy L (q + 1)).2] 31) := ⟨_, rfl⟩
          obtain ⟨S0, hS0⟩ : ∃ S, S = wi.heap.size := ⟨_, rfl⟩
          obtain ⟨S1, hS1⟩ : ∃ S, S = wi.heap.size + 1 := ⟨_, rfl⟩
          obtain ⟨S2, hS2⟩ : ∃ S, S = wi.heap.size + 1 + 1 := ⟨_, rfl⟩
          obtain ⟨S3, hS3⟩ : ∃ S, S = wi.heap.size + 1 + 1 + 1 := ⟨_, rfl⟩
          have x0 : V.cell? ⟨S0, 0, none⟩ = some (.int .i64 (cy L j).1) ∧ V.cell? ⟨S0, 1, none⟩ = some (.int .i64 (cy L j).2) := by rw [hV, hS0]; simp [go_sem]
          have x1 : V.cell? ⟨S1, 0, none⟩ = some (.int .i64 (cy L (j + 1)).1) ∧ V.cell? ⟨S1, 1, none⟩ = some (.int .i64 (cy L (j + 1)).2) := by rw [hV, hS1]; simp [go_sem]
          have x2 : V.cell? ⟨S2, 0, none⟩ = some (.int .i64 (cy L q).1) ∧ V.cell? ⟨S2, 1, none⟩ = some (.int .i64 (cy L q).2) := by rw [hV, hS2]; simp [go_sem]
          have x3 : V.cell? ⟨S3, 0, none⟩ = some (.int .i64 (cy L (q + 1)).1) ∧ V.cell? ⟨S3, 1, none⟩ = some (.int .i64 (cy L (q + 1)).2) := by rw [hV, hS3]; simp [go_sem]
          have hbV : Below wi.heap.size wi V := by rw [hV]; exact (by repeat (first | assumption | exact Below.refl _ _ | (refine below_chain ?_ (by assumption) (by first | omega | (simp <;> omega) | simp)) | (refine Below.alloc ?_ (by first | omega | (simp <;> omega) | simp) _) | (apply below_drewN) | (apply below_drew) | (refine Below.setCell ?_ (by first | omega | (simp <;> omega) | simp) _)))
          have hsV : V.heap.size = wi.heap.size + 4 := by rw [hV]; simp
          rw [← hV, ← hS3, ← hS2, ← hS1, ← hS0]
          obtain ⟨x00, x01⟩ := x0
          obtain ⟨x10, x11⟩ := x1
          obtain ⟨x20, x21⟩ := x2
          obtain ⟨x30, x31⟩ := x3
          have q0 : S0 < V.heap.size := by omega
          have q1 : S1 < V.heap.size := by omega
          have q2 : S2 < V.heap.size := by omega
          have q3 : S3 < V.heap.size := by omega
          have hwV : wi.heap.size ≤ V.heap.size := by omega
          clear hV hS0 hS1 hS2 hS3 hsV a0 a1 b0 b1 g0 g1 d0 d1 hB hB' hrem hBa hBb hBc hi1 hi2
          by_cases hA : q = j + 1
          · subst hA
            clear c3 c4 c5 h3 h4 h5
            have HA : Hid (clash L j (j + 1) = (t1 || t2)) := Lib.hid (by unfold clash; rw [if_pos rfl, h1, h2])
            clear h1 h2
            have E1 : Hid (cy L (j + 1) = cy L j → clash L j (j + 1) = true) := Lib.hid clash_eq1
            have E2 : Hid (cy L (j + 1 + 1) = cy L (j + 1) → clash L j (j + 1) = true) := Lib.hid clash_eq2
            have hbw := HX.out.2.2.1
            generalize cy L (j + 1 + 1) = pd at *
            generalize cy L (j + 1) = pb at *
            generalize cy L j = pa at *
            obtain ⟨ax, ay⟩ := pa
            obtain ⟨bx, b_y⟩ := pb
            obtain ⟨dx, dy⟩ := pd
            dsimp only at *
            by_cases f1 : bx = ax
            · subst f1
              by_cases f2 : b_y = ay
              · subst f2
                go_wp2_with fail
                first | (go_ret; exact ⟨ret_bool (HX.out.1 (by first | exact E1.out rfl | exact E1.out trivial | exact E2.out rfl | exact E2.out trivial | exact HA.out.trans rfl)).symm, HB.out.trans ((show Below wo.heap.size wo _ from (by repeat (first | assumption | exact Below.refl _ _ | (refine below_chain ?_ (by assumption) (by first | omega | (simp <;> omega) | simp)) | (refine Below.alloc ?_ (by first | omega | (simp <;> omega) | simp) _) | (apply below_drewN) | (apply below_drew) | (refine Below.setCell ?_ (by first | omega | (simp <;> omega) | simp) _)))).mono hbo)⟩) | (go_roundw; (case rel => exact ⟨j + 1 + 1, by omega, by omega, by go_num, HX.out.2.1 (HA.out.trans rfl), (by repeat (first | assumption | exact Below.refl _ _ | (refine below_chain ?_ (by assumption) (by first | omega | (simp <;> omega) | simp)) | (refine Below.alloc ?_ (by first | omega | (simp <;> omega) | simp) _) | (apply below_drewN) | (apply below_drew) | (refine Below.setCell ?_ (by first | omega | (simp <;> omega) | simp) _)))⟩); (case measure => simp [intOf]; omega))
              · by_cases f3 : dx = bx
                · subst f3
                  by_cases f4 : dy = b_y
                  · subst f4
                    go_wp2_with fail
                    first | (go_ret; exact ⟨ret_bool (HX.out.1 (by first | exact E1.out rfl | exact E1.out trivial | exact E2.out rfl | exact E2.out trivial | exact HA.out.trans rfl)).symm, HB.out.trans ((show Below wo.heap.size wo _ from (by repeat (first | assumption | exact Below.refl _ _ | (refine below_chain ?_ (by assumption) (by first | omega | (simp <;> omega) | simp)) | (refine Below.alloc ?_ (by first | omega | (simp <;> omega) | simp) _) | (apply below_drewN) | (apply below_drew) | (refine Below.setCell ?_ (by first | omega | (simp <;> omega) | simp) _)))).mono hbo)⟩) | (go_roundw; (case rel => exact ⟨j + 1 + 1, by omega, by omega, by go_num, HX.out.2.1 (HA.out.trans rfl), (by repeat (first | assumption | exact Below.refl _ _ | (refine below_chain ?_ (by assumption) (by first | omega | (simp <;> omega) | simp)) | (refine Below.alloc ?_ (by first | omega | (simp <;> omega) | simp) _) | (apply below_drewN) | (apply below_drew) | (refine Below.setCell ?_ (by first | omega | (simp <;> omega) | simp) _)))⟩); (case measure => simp [intOf]; omega))
                  · cases t1 <;> cases t2
                    all_goals go_wp2_with (first | ((go_at_call 63; (with_reducible refine ((c1 _).out).mono ?_); rintro e wa ⟨rfl, hb_wa⟩; have hs_wa := hb_wa.size; (try simp at hs_wa)); obtain ⟨hc_wa, hf_wa⟩ := bcell hb_wa; (have q0_wa : S0 < wa.heap.size := by omega); (have q1_wa : S1 < wa.heap.size := by omega); (have q2_wa : S2 < wa.heap.size := by omega); (have q3_wa : S3 < wa.heap.size := by omega)) | ((go_at_call 63; (with_reducible refine ((c2 _).out).mono ?_); rintro e wb ⟨rfl, hb_wb⟩; have hs_wb := hb_wb.size; (try simp at hs_wb)); obtain ⟨hc_wb, hf_wb⟩ := bcell hb_wb; (have q0_wb : S0 < wb.heap.size := by omega); (have q1_wb : S1 < wb.heap.size := by omega); (have q2_wb : S2 < wb.heap.size := by omega); (have q3_wb : S3 < wb.heap.size := by omega)))
                    all_goals first | (go_ret; exact ⟨ret_bool (HX.out.1 (by first | exact E1.out rfl | exact E1.out trivial | exact E2.out rfl | exact E2.out trivial | exact HA.out.trans rfl)).symm, HB.out.trans ((show Below wo.heap.size wo _ from (by repeat (first | assumption | exact Below.refl _ _ | (refine below_chain ?_ (by assumption) (by first | omega | (simp <;> omega) | simp)) | (refine Below.alloc ?_ (by first | omega | (simp <;> omega) | simp) _) | (apply below_drewN) | (apply below_drew) | (refine Below.setCell ?_ (by first | omega | (simp <;> omega) | simp) _)))).mono hbo)⟩) | (go_roundw; (case rel => exact ⟨j + 1 + 1, by omega, by omega, by go_num, HX.out.2.1 (HA.out.trans rfl), (by repeat (first | assumption | exact Below.refl _ _ | (refine below_chain ?_ (by assumption) (by first | omega | (simp <;> omega) | simp)) | (refine Below.alloc ?_ (by first | omega | (simp <;> omega) | simp) _) | (apply below_drewN) | (apply below_drew) | (refine Below.setCell ?_ (by first | omega | (simp <;> omega) | simp) _)))⟩); (case measure => simp [intOf]; omega))
                · cases t1 <;> cases t2
                  all_goals go_wp2_with (first | ((go_at_call 63; (with_reducible refine ((c1 _).out).mono ?_); rintro e wa ⟨rfl, hb_wa⟩; have hs_wa := hb_wa.size; (try simp at hs_wa)); obtain ⟨hc_wa, hf_wa⟩ := bcell hb_wa; (have q0_wa : S0 < wa.heap.size := by omega); (have q1_wa : S1 < wa.heap.size := by omega); (have q2_wa : S2 < wa.heap.size := by omega); (have q3_wa : S3 < wa.heap.size := by omega)) | ((go_at_call 63; (with_reducible refine ((c2 _).out).mono ?_); rintro e wb ⟨rfl, hb_wb⟩; have hs_wb := hb_wb.size; (try simp at hs_wb)); obtain ⟨hc_wb, hf_wb⟩ := bcell hb_wb; (have q0_wb : S0 < wb.heap.size := by omega); (have q1_wb : S1 < wb.heap.size := by omega); (have q2_wb : S2 < wb.heap.size := by omega); (have q3_wb : S3 < wb.heap.size := by omega)))
                  all_goals first | (go_ret; exact ⟨ret_bool (HX.out.1 (by first | exact E1.out rfl | exact E1.out trivial | exact E2.out rfl | exact E2.out trivial | exact HA.out.trans rfl)).symm, HB.out.trans ((show Below wo.heap.size wo _ from (by repeat (first | assumption | exact Below.refl _ _ | (refine below_chain ?_ (by assumption) (by first | omega | (simp <;> omega) | simp)) | (refine Below.alloc ?_ (by first | omega | (simp <;> omega) | simp) _) | (apply below_drewN) | (apply below_drew) | (refine Below.setCell ?_ (by first | omega | (simp <;> omega) | simp) _)))).mono hbo)⟩) | (go_roundw; (case rel => exact ⟨j + 1 + 1, by omega, by omega, by go_num, HX.out.2.1 (HA.out.trans rfl), (by repeat (first | assumption | exact Below.refl _ _ | (refine below_chain ?_ (by assumption) (by first | omega | (simp <;> omega) | simp)) | (refine Below.alloc ?_ (by first | omega | (simp <;> omega) | simp) _) | (apply below_drewN) | (apply below_drew) | (refine Below.setCell ?_ (by first | omega | (simp <;> omega) | simp) _)))⟩); (case measure => simp [intOf]; omega))
            · by_cases f3 : dx = bx
              · subst f3
                by_cases f4 : dy = b_y
                · subst f4
                  go_wp2_with fail
                  first | (go_ret; exact ⟨ret_bool (HX.out.1 (by first | exact E1.out rfl | exact E1.out trivial | exact E2.out rfl | exact E2.out trivial | exact HA.out.trans rfl)).symm, HB.out.trans ((show Below wo.heap.size wo _ from (by repeat (first | assumption | exact Below.refl _ _ | (refine below_chain ?_ (by assumption) (by first | omega | (simp <;> omega) | simp)) | (refine Below.alloc ?_ (by first | omega | (simp <;> omega) | simp) _) | (apply below_drewN) | (apply below_drew) | (refine Below.setCell ?_ (by first | omega | (simp <;> omega) | simp) _)))).mono hbo)⟩) | (go_roundw; (case rel => exact ⟨j + 1 + 1, by omega, by omega, by go_num, HX.out.2.1 (HA.out.trans rfl), (by repeat (first | assumption | exact Below.refl _ _ | (refine below_chain ?_ (by assumption) (by first | omega | (simp <;> omega) | simp)) | (refine Below.alloc ?_ (by first | omega | (simp <;> omega) | simp) _) | (apply below_drewN) | (apply below_drew) | (refine Below.setCell ?_ (by first | omega | (simp <;> omega) | simp) _)))⟩); (case measure => simp [intOf]; omega))
                · cases t1 <;> cases t2
                  all_goals go_wp2_with (first | ((go_at_call 63; (with_reducible refine ((c1 _).out).mono ?_); rintro e wa ⟨rfl, hb_wa⟩; have hs_wa := hb_wa.size; (try simp at hs_wa)); obtain ⟨hc_wa, hf_wa⟩ := bcell hb_wa; (have q0_wa : S0 < wa.heap.size := by omega); (have q1_wa : S1 < wa.heap.size := by omega); (have q2_wa : S2 < wa.heap.size := by omega); (have q3_wa : S3 < wa.heap.size := by omega)) | ((go_at_call 63; (with_reducible refine ((c2 _).out).mono ?_); rintro e wb ⟨rfl, hb_wb⟩; have hs_wb := hb_wb.size; (try simp at hs_wb)); obtain ⟨hc_wb, hf_wb⟩ := bcell hb_wb; (have q0_wb : S0 < wb.heap.size := by omega); (have q1_wb : S1 < wb.heap.size := by omega); (have q2_wb : S2 < wb.heap.size := by omega); (have q3_wb : S3 < wb.heap.size := by omega)))
                  all_goals first | (go_ret; exact ⟨ret_bool (HX.out.1 (by first | exact E1.out rfl | exact E1.out trivial | exact E2.out rfl | exact E2.out trivial | exact HA.out.trans rfl)).symm, HB.out.trans ((show Below wo.heap.size wo _ from (by repeat (first | assumption | exact Below.refl _ _ | (refine below_chain ?_ (by assumption) (by first | omega | (simp <;> omega) | simp)) | (refine Below.alloc ?_ (by first | omega | (simp <;> omega) | simp) _) | (apply below_drewN) | (apply below_drew) | (refine Below.setCell ?_ (by first | omega | (simp <;> omega) | simp) _)))).mono hbo)⟩) | (go_roundw; (case rel => exact ⟨j + 1 + 1, by omega, by omega, by go_num, HX.out.2.1 (HA.out.trans rfl), (by repeat (first | assumption | exact Below.refl _ _ | (refine below_chain ?_ (by assumption) (by first | omega | (simp <;> omega) | simp)) | (refine Below.alloc ?_ (by first | omega | (simp <;> omega) | simp) _) | (apply below_drewN) | (apply below_drew) | (refine Below.setCell ?_ (by first | omega | (simp <;> omega) | simp) _)))⟩); (case measure => simp [intOf]; omega))
              · cases t1 <;> cases t2
                all_goals go_wp2_with (first | ((go_at_call 63; (with_reducible refine ((c1 _).out).mono ?_); rintro e wa ⟨rfl, hb_wa⟩; have hs_wa := hb_wa.size; (try simp at hs_wa)); obtain ⟨hc_wa, hf_wa⟩ := bcell hb_wa; (have q0_wa : S0 < wa.heap.size := by omega); (have q1_wa : S1 < wa.heap.size := by omega); (have q2_wa : S2 < wa.heap.size := by omega); (have q3_wa : S3 < wa.heap.size := by omega)) | ((go_at_call 63; (with_reducible refine ((c2 _).out).mono ?_); rintro e wb ⟨rfl, hb_wb⟩; have hs_wb := hb_wb.size; (try simp at hs_wb)); obtain ⟨hc_wb, hf_wb⟩ := bcell hb_wb; (have q0_wb : S0 < wb.heap.size := by omega); (have q1_wb : S1 < wb.heap.size := by omega); (have q2_wb : S2 < wb.heap.size := by omega); (have q3_wb : S3 < wb.heap.size := by omega)))
                all_goals first | (go_ret; exact ⟨ret_bool (HX.out.1 (by first | exact E1.out rfl | exact E1.out trivial | exact E2.out rfl | exact E2.out trivial | exact HA.out.trans rfl)).symm, HB.out.trans ((show Below wo.heap.size wo _ from (by repeat (first | assumption | exact Below.refl _ _ | (refine below_chain ?_ (by assumption) (by first | omega | (simp <;> omega) | simp)) | (refine Below.alloc ?_ (by first | omega | (simp <;> omega) | simp) _) | (apply below_drewN) | (apply below_drew) | (refine Below.setCell ?_ (by first | omega | (simp <;> omega) | simp) _)))).mono hbo)⟩) | (go_roundw; (case rel => exact ⟨j + 1 + 1, by omega, by omega, by go_num, HX.out.2.1 (HA.out.trans rfl), (by repeat (first | assumption | exact Below.refl _ _ | (refine below_chain ?_ (by assumption) (by first | omega | (simp <;> omega) | simp)) | (refine Below.alloc ?_ (by first | omega | (simp <;> omega) | simp) _) | (apply below_drewN) | (apply below_drew) | (refine Below.setCell ?_ (by first | omega | (simp <;> omega) | simp) _)))⟩); (case measure => simp [intOf]; omega))
          · have hA' : ¬ (q : Int) = (j : Int) + 1 := by omega
            clear c1 c2 h1 h2
            have hbw := HX.out.2.2.1
            by_cases hB2 : (q + 1) % L.length = j
            · have hB2' : ((q : Int) + 1) % (L.length : Int) = (j : Int) := by rw [← hB2]; simp
              have HA : Hid (clash L j q = (t3 || t4)) := Lib.hid (by unfold clash; rw [if_neg hA, if_pos hB2, h3, h4])
              clear c5 h3 h4 h5 hB2
              cases t3 <;> cases t4
              all_goals go_wp2_with (first | ((go_at_call 63; (with_reducible refine ((c3 _).out).mono ?_); rintro e wa ⟨rfl, hb_wa⟩; have hs_wa := hb_wa.size; (try simp at hs_wa)); obtain ⟨hc_wa, hf_wa⟩ := bcell hb_wa; (have q0_wa : S0 < wa.heap.size := by omega); (have q1_wa : S1 < wa.heap.size := by omega); (have q2_wa : S2 < wa.heap.size := by omega); (have q3_wa : S3 < wa.heap.size := by omega)) | ((go_at_call 63; (with_reducible refine ((c4 _).out).mono ?_); rintro e wb ⟨rfl, hb_wb⟩; have hs_wb := hb_wb.size; (try simp at hs_wb)); obtain ⟨hc_wb, hf_wb⟩ := bcell hb_wb; (have q0_wb : S0 < wb.heap.size := by omega); (have q1_wb : S1 < wb.heap.size := by omega); (have q2_wb : S2 < wb.heap.size := by omega); (have q3_wb : S3 < wb.heap.size := by omega)))
              all_goals first | (go_ret; exact ⟨ret_bool (HX.out.1 (HA.out.trans rfl)).symm, HB.out.trans ((show Below wo.heap.size wo _ from (by repeat (first | assumption | exact Below.refl _ _ | (refine below_chain ?_ (by assumption) (by first | omega | (simp <;> omega) | simp)) | (refine Below.alloc ?_ (by first | omega | (simp <;> omega) | simp) _) | (apply below_drewN) | (apply below_drew) | (refine Below.setCell ?_ (by first | omega | (simp <;> omega) | simp) _)))).mono hbo)⟩) | (go_roundw; (case rel => exact ⟨q + 1, by omega, by omega, by go_num, HX.out.2.1 (HA.out.trans rfl), (by repeat (first | assumption | exact Below.refl _ _ | (refine below_chain ?_ (by assumption) (by first | omega | (simp <;> omega) | simp)) | (refine Below.alloc ?_ (by first | omega | (simp <;> omega) | simp) _) | (apply below_drewN) | (apply below_drew) | (refine Below.setCell ?_ (by first | omega | (simp <;> omega) | simp) _)))⟩); (case measure => simp [intOf]; omega))
            · have hB2' : ¬ ((q : Int) + 1) % (L.length : Int) = (j : Int) := fun h => hB2 (Int.ofNat.inj (show (((q + 1) % L.length : Nat) : Int) = (j : Int) by simpa using h))
              have HA : Hid (clash L j q = t5) := Lib.hid (by unfold clash; rw [if_neg hA, if_neg hB2, h5])
              clear c3 c4 h3 h4 h5 hB2
              cases t5
              all_goals go_wp2_with ((go_at_call 64; (with_reducible refine ((c5 _).out).mono ?_); rintro e wa ⟨rfl, hb_wa⟩; have hs_wa := hb_wa.size; (try simp at hs_wa)); obtain ⟨hc_wa, hf_wa⟩ := bcell hb_wa; (have q0_wa : S0 < wa.heap.size := by omega); (have q1_wa : S1 < wa.heap.size := by omega); (have q2_wa : S2 < wa.heap.size := by omega); (have q3_wa : S3 < wa.heap.size := by omega))
              all_goals first | (go_ret; exact ⟨ret_bool (HX.out.1 (HA.out.trans rfl)).symm, HB.out.trans ((show Below wo.heap.size wo _ from (by repeat (first | assumption | exact Below.refl _ _ | (refine below_chain ?_ (by assumption) (by first | omega | (simp <;> omega) | simp)) | (refine Below.alloc ?_ (by first | omega | (simp <;> omega) | simp) _) | (apply below_drewN) | (apply below_drew) | (refine Below.setCell ?_ (by first | omega | (simp <;> omega) | simp) _)))).mono hbo)⟩) | (go_roundw; (case rel => exact ⟨q + 1, by omega, by omega, by go_num, HX.out.2.1 (HA.out.trans rfl), (by repeat (first | assumption | exact Below.refl _ _ | (refine below_chain ?_ (by assumption) (by first | omega | (simp <;> omega) | simp)) | (refine Below.alloc ?_ (by first | omega | (simp <;> omega) | simp) _) | (apply below_drewN) | (apply below_drew) | (refine Below.setCell ?_ (by first | omega | (simp <;> omega) | simp) _)))⟩); (case measure => simp [intOf]; omega))
        · have e : q = L.length := by omega
          subst e
          have hql' : ¬ (L.length : Int) < (L.length : Int) := by omega
          go_wp2_with fail
          go_roundw
          case rel => exact ⟨j + 1, by omega, by go_num, Lib.hid (fun a k h1 h2 h3 => by
            by_cases e : a = j
            · subst e; exact hcq.out k h2 h3
            · exact hcl.out a k (by omega) h2 h3), HB.out.trans (hb.mono hbo)⟩
          case measure => simp [intOf]; omega
    · have e : j = L.length := by omega
      subst e
      have hlt' : ¬ (L.length : Int) < (L.length : Int) := by omega
      have hs : simple L = true := simple_of (fun i k h1 h2 => hcl.out i k (by omega) h1 h2)
      go_wp2_with fail
      go_ret
      exact ⟨rfl, HB.out⟩
theorem sPolyValid_off (h : Ints w p (fl L)) (hl : L.length ≤ 4000000000000000000) (hok : okP L = false) :
    Calls Try.prog 19 #[.slice p L.length c] w fun e w' => e = .returned (.bool false) ∧ Below w.heap.size w w' := by
  have c0 := fun w h => Lib.hid (sPoints (p := p) (c := c) (L := L) (w := w) h hl)
  rw [hok] at c0
  have H := Lib.hid h
  clear h hok
  go_enter Try.func19, Try.ntmps19
  go_wp2_with ((go_at_call 62; (with_reducible refine ((c0 _ ?_).out).mono ?_); (focus ((exact H.out); done)); rintro e wa ⟨rfl, hb_wa⟩; have hs_wa := hb_wa.size; (try simp at hs_wa)))
  go_ret
  exact ⟨rfl, (by repeat (first | assumption | exact Below.refl _ _ | (refine below_chain ?_ (by assumption) (by first | omega | (simp <;> omega) | simp)) | (refine Below.alloc ?_ (by first | omega | (simp <;> omega) | simp) _) | (apply below_drewN) | (apply below_drew) | (refine Below.setCell ?_ (by first | omega | (simp <;> omega) | simp) _)))⟩
theorem sPolyValid_no (h : Ints w p (fl L)) (hl : L.length ≤ 4000000000000000000) (hv : polyV L = false) :
    Calls Try.prog 19 #[.slice p L.length c] w fun e w' => e = .returned (.bool false) ∧ Below w.heap.size w w' := by
  cases hok : okP L
  · exact sPolyValid_off h hl hok
  · have hs : simple L = false := by unfold polyV at hv; rw [hok, Bool.true_and] at hv; exact hv
    rw [← hs]; exact sPolyValid_ok h hok
theorem sPolyValid_yes (h : Ints w p (fl L)) (hl : L.length ≤ 4000000000000000000) (hv : polyV L = true) :
    Calls Try.prog 19 #[.slice p L.length c] w fun e w' => e = .returned (.bool true) ∧ Below w.heap.size w w' := by
  unfold polyV at hv
  rw [Bool.and_eq_true] at hv
  rw [← hv.2]; exact sPolyValid_ok h hv.1
end
end Go.Proofs.Ytgncjpakclbegaa
namespace Go.Proofs.Ytgncjpakclbegaa
open Go.RowKit Poly
set_option linter.unusedVariables false

section
variable {p : Option Addr} {c : Nat} {L : List P2} {w : World}
end
/-- the coordinates of both, where a side of the one is one of the other the other way round -/
theorem oppP_four (L M : List P2) (i k : Nat) : oppP L M i k = (((cy L i).1 == (cy M (k + 1)).1 && (cy L i).2 == (cy M (k + 1)).2) && ((cy L (i + 1)).1 == (cy M k).1 && (cy L (i + 1)).2 == (cy M k).2)) := by
  unfold oppP
  have e : ∀ a b : P2, decide (a = b) = (a.1 == b.1 && a.2 == b.2) := fun a b => by
    by_cases e : a = b
    · subst e; simp
    · rw [decide_eq_false e]
      by_cases h1 : a.1 = b.1
      · have h2 : ¬ a.2 = b.2 := fun h2 => e (Prod.ext h1 h2)
        simp [h2]
      · simp [h1]
  rw [e, e]
section
variable {p q : Option Addr} {c d : Nat} {L M : List P2} {w : World}
end
end Go.Proofs.Ytgncjpakclbegaa
