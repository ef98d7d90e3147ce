/-
  Which lists the reference model takes for simple polygons.
-/
import Derived.Test.YtegcjdcinebleaaYv
namespace Go.Proofs.Ytegcjdcinebleaa
open Go.RowKit Poly
set_option linter.unusedVariables false

section
variable {p : Option Addr} {c : Nat} {L : List P2} {w : World}
/-- equal corners are on each other's sides -/
theorem on_left (a b : P2) : onP a b a = true := by
  unfold onP Pt.onB Pt.cr
  refine decide_eq_true ⟨by simp, ?_, ?_, ?_, ?_⟩ <;> omega
theorem on_right (a b : P2) : onP a b b = true := by
  unfold onP Pt.onB Pt.cr
  refine decide_eq_true ⟨by rw [Int.mul_comm]; omega, ?_, ?_, ?_, ?_⟩ <;> omega
theorem clash_eq1 {i : Nat} (h : cy L (i + 1) = cy L i) : clash L i (i + 1) = true := by
  unfold clash
  rw [if_pos rfl, h, on_left]; simp
theorem clash_eq2 {i : Nat} (h : cy L (i + 2) = cy L (i + 1)) : clash L i (i + 1) = true := by
  unfold clash
  rw [if_pos rfl, show i + 1 + 1 = i + 2 from rfl, h, on_right]; simp
set_option maxHeartbeats 8000000 in
set_option maxRecDepth 100000 in
theorem sPolyValid_ok (h : Ints w p (fl L)) (hok : okP L = true) :
    Calls Try.prog 20 #[.slice p L.length c] w fun e w' => e = .returned (.bool (simple L)) ∧ Below w.heap.size w w' := by
  have c0 := fun w h => Lib.hid (sPoints (p := p) (c := c) (L := L) (w := w) h (by have := okP_len hok; omega))
  rw [hok] at c0
  have H := Lib.hid (And.intro h hok)
  obtain ⟨hl3, hl12⟩ := okP_len hok
  clear h hok
  go_enter Try.func20, Try.ntmps20
  go_wp2_with ((go_at_call 64; (with_reducible refine ((c0 _ ?_).out).mono ?_); (focus ((exact H.out.1); done)); rintro e wa ⟨rfl, hb_wa⟩; have hs_wa := hb_wa.size; (try simp at hs_wa)))
  have HA := Lib.hid hb_wa
  clear hb_wa hs_wa c0
  go_loopw [4] (fun i wr => ∃ j : Nat, j ≤ L.length ∧ i = .int .i64 j ∧ Hid (∀ a k, a < j → a < k → k < L.length → clash L a k = false) ∧ Below w.heap.size w wr) (fun i _ => L.length - (intOf i).toNat)
  case atStart => exact ⟨0, Nat.zero_le _, rfl, Lib.hid (fun a k h => by omega), HA.out⟩
  case round =>
    clear HA
    obtain ⟨j, hj, rfl, hcl, hb⟩ := hrel
    rename World => wo
    have HB := Lib.hid hb
    have hbo := hb.size
    clear hb
    by_cases hlt : j < L.length
    · have hlt' : (j : Int) < (L.length : Int) := by omega
      go_wp2_with fail
      go_loopw [5] (fun k wr => ∃ q : Nat, j < q ∧ q ≤ L.length ∧ k = .int .i64 q ∧ Hid (∀ k, j < k → k < q → clash L j k = false) ∧ Below wo.heap.size wo wr) (fun k _ => L.length - (intOf k).toNat)
      case atStart => exact ⟨j + 1, by omega, by omega, by go_num, Lib.hid (fun k h1 h2 => by omega), Below.refl _ _⟩
      case round =>
        obtain ⟨q, hjq, hq, rfl, hcq, hb⟩ := hrel
        rename World => wi
        have hbs := hb.size
        by_cases hql : q < L.length
        · have hql' : (q : Int) < (L.length : Int) := by omega
          obtain ⟨B, o, m, rfl, hB, ⟨a0, a1⟩, hml, hrem, ⟨b0, b1⟩, hm⟩ := ((H.out.1.below HB.out).below hb).two hlt
          obtain ⟨B', o', m', e', hB', ⟨g0, g1⟩, hml2, hrem2, ⟨d0, d1⟩, hm2⟩ := ((H.out.1.below HB.out).below hb).two hql
          simp at e'
          obtain ⟨rfl, rfl⟩ := e'
          subst hm
          subst hm2
          have hi1 : 0 ≤ ((j : Int) + 1) % (L.length : Int) ∧ ((j : Int) + 1) % (L.length : Int) < (L.length : Int) := ⟨Int.emod_nonneg _ (by omega), Int.emod_lt_of_pos _ (by omega)⟩
          have hi2 : 0 ≤ ((q : Int) + 1) % (L.length : Int) ∧ ((q : Int) + 1) % (L.length : Int) < (L.length : Int) := ⟨Int.emod_nonneg _ (by omega), Int.emod_lt_of_pos _ (by omega)⟩
          have hBa : B < wi.heap.size + 1 := by omega
          have hBb : B < wi.heap.size + 1 + 1 := by omega
          have hBc : B < wi.heap.size + 1 + 1 + 1 := by omega
          have hv := okP_at H.out.2
          obtain ⟨t1, h1⟩ : ∃ b, onP (cy L j) (cy L (j + 1)) (cy L (q + 1)) = b := ⟨_, rfl⟩
          obtain ⟨t2, h2⟩ : ∃ b, onP (cy L q) (cy L (q + 1)) (cy L j) = b := ⟨_, rfl⟩
          obtain ⟨t3, h3⟩ : ∃ b, onP (cy L q) (cy L (q + 1)) (cy L (j + 1)) = b := ⟨_, rfl⟩
          obtain ⟨t4, h4⟩ : ∃ b, onP (cy L j) (cy L (j + 1)) (cy L q) = b := ⟨_, rfl⟩
          obtain ⟨t5, h5⟩ : ∃ b, meet (cy L j) (cy L (j + 1)) (cy L q) (cy L (q + 1)) = b := ⟨_, rfl⟩
          have c1 := fun w => Lib.hid (sOnP (hv j) (hv (j + 1)) (hv (q + 1)) h1 w)
          have c2 := fun w => Lib.hid (sOnP (hv q) (hv (q + 1)) (hv j) h2 w)
          have c3 := fun w => Lib.hid (sOnP (hv q) (hv (q + 1)) (hv (j + 1)) h3 w)
          have c4 := fun w => Lib.hid (sOnP (hv j) (hv (j + 1)) (hv q) h4 w)
          have c5 := fun w => Lib.hid (sMeet (hv j) (hv (j + 1)) (hv q) (hv (q + 1)) w)
          simp only [h5] at c5
          have hno : clash L j q = true → simple L = false := fun h => simple_no hjq hql h
          have hnx : clash L j q = false → Hid (∀ k, j < k → k < q + 1 → clash L j k = false) := fun h => Lib.hid (fun k g1 g2 => by
            by_cases e : k = q
            · subst e; exact h
            · exact hcq.out k g1 (by omega))
          have HX := Lib.hid (And.intro hno (And.intro hnx (And.intro hb (And.intro hcl hcq))))
          clear hv hno hnx hb hcl hcq
          go_upto_region 16 with fail
          obtain ⟨V, hV⟩ : ∃ V, V = (((wi.alloc (.cells #[.int .i64 (cy L j).1, .int .i64 (cy L j).2] 31)).alloc (.cells #[.int .i64 (cy L (j + 1)).1, .int .i64 (cy L (j + 1)).2] 31)).alloc (.cells #[.int .i64 (cy L q).1, .int .i64 (cy L q).2] 31)).alloc (.cells #[.int .i64 (cy L (q + 1)).1, .int .i64 (cy L (q + 1)).2] 31) := ⟨_, rfl⟩
          obtain ⟨S0, hS0⟩ : ∃ S, S = wi.heap.size := ⟨_, rfl⟩
          obtain ⟨S1, hS1⟩ : ∃ S, S = wi.heap.size + 1 := ⟨_, rfl⟩
          obtain ⟨S2, hS2⟩ : ∃ S, S = wi.heap.size + 1 + 1 := ⟨_, rfl⟩
          obtain ⟨S3, hS3⟩ : ∃ S, S = wi.heap.size + 1 + 1 + 1 := ⟨_, rfl⟩
          have x0 : V.cell? ⟨S0, 0, none⟩ = some (.int .i64 (cy L j).1) ∧ V.cell? ⟨S0, 1, none⟩ = some (.int .i64 (cy L j).2) := by rw [hV, hS0]; simp [go_sem]
          have x1 : V.cell? ⟨S1, 0, none⟩ = some (.int .i64 (cy L (j + 1)).1) ∧ V.cell? ⟨S1, 1, none⟩ = some (.int .i64 (cy L (j + 1)).2) := by rw [hV, hS1]; simp [go_sem]
          have x2 : V.cell? ⟨S2, 0, none⟩ = some (.int .i64 (cy L q).1) ∧ V.cell? ⟨S2, 1, none⟩ = some (.int .i64 (cy L q).2) := by rw [hV, hS2]; simp [go_sem]
          have x3 : V.cell? ⟨S3, 0, none⟩ = some (.int .i64 (cy L (q + 1)).1) ∧ V.cell? ⟨S3, 1, none⟩ = some (.int .i64 (cy L (q + 1)).2) := by rw [hV, hS3]; simp [go_sem]
          have hbV : Below wi.heap.size wi V := by rw [hV]; exact (by repeat (first | assumption | exact Below.refl _ _ | (refine below_chain ?_ (by assumption) (by first | omega | (simp <;> omega) | simp)) | (refine Below.alloc ?_ (by first | omega | (simp <;> omega) | simp) _) | (apply below_drewN) | (apply below_drew) | (refine Below.setCell ?_ (by first | omega | (simp <;> omega) | simp) _)))
          have hsV : V.heap.size = wi.heap.size + 4 := by rw [hV]; simp
          rw [← hV, ← hS3, ← hS2, ← hS1, ← hS0]
          obtain ⟨x00, x01⟩ := x0
          obtain ⟨x10, x11⟩ := x1
          obtain ⟨x20, x21⟩ := x2
          obtain ⟨x30, x31⟩ := x3
          have q0 : S0 < V.heap.size := by omega
          have q1 : S1 < V.heap.size := by omega
          have q2 : S2 < V.heap.size := by omega
          have q3 : S3 < V.heap.size := by omega
          have hwV : wi.heap.size ≤ V.heap.size := by omega
          clear hV hS0 hS1 hS2 hS3 hsV a0 a1 b0 b1 g0 g1 d0 d1 hB hB' hrem hBa hBb hBc hi1 hi2
          by_cases hA : q = j + 1
          · subst hA
            clear c3 c4 c5 h3 h4 h5
            have HA : Hid (clash L j (j + 1) = (t1 || t2)) := Lib.hid (by unfold clash; rw [if_pos rfl, h1, h2])
            clear h1 h2
            have E1 : Hid (cy L (j + 1) = cy L j → clash L j (j + 1) = true) := Lib.hid clash_eq1
            have E2 : Hid (cy L (j + 1 + 1) = cy L (j + 1) → clash L j (j + 1) = true) := Lib.hid clash_eq2
            have hbw := HX.out.2.2.1
            generalize cy L (j + 1 + 1) = pd at *
            generalize cy L (j + 1) = pb at *
            generalize cy L j = pa at *
            obtain ⟨ax, ay⟩ := pa
            obtain ⟨bx, b_y⟩ := pb
            obtain ⟨dx, dy⟩ := pd
            dsimp only at *
            by_cases f1 : bx = ax
            · subst f1
              by_cases f2 : b_y = ay
              · subst f2
                go_wp2_with fail
                first | (go_ret; exact ⟨ret_bool (HX.out.1 (by first | exact E1.out rfl | exact E1.out trivial | exact E2.out rfl | exact E2.out trivial | exact HA.out.trans rfl)).symm, HB.out.trans ((show Below wo.heap.size wo _ from (by repeat (first | assumption | exact Below.refl _ _ | (refine below_chain ?_ (by assumption) (by first | omega | (simp <;> omega) | simp)) | (refine Below.alloc ?_ (by first | omega | (simp <;> omega) | simp) _) | (apply below_drewN) | (apply below_drew) | (refine Below.setCell ?_ (by first | omega | (simp <;> omega) | simp) _)))).mono hbo)⟩) | (go_roundw; (case rel => exact ⟨j + 1 + 1, by omega, by omega, by go_num, HX.out.2.1 (HA.out.trans rfl), (by repeat (first | assumption | exact Below.refl _ _ | (refine below_chain ?_ (by assumption) (by first | omega | (simp <;> omega) | simp)) | (refine Below.alloc ?_ (by first | omega | (simp <;> omega) | simp) _) | (apply below_drewN) | (apply below_drew) | (refine Below.setCell ?_ (by first | omega | (simp <;> omega) | simp) _)))⟩); (case measure => simp [intOf]; omega))
              · by_cases f3 : dx = bx
                · subst f3
                  by_cases f4 : dy = b_y
                  · subst f4
                    go_wp2_with fail
                    first | (go_ret; exact ⟨ret_bool (HX.out.1 (by first | exact E1.out rfl | exact E1.out trivial | exact E2.out rfl | exact E2.out trivial | exact HA.out.trans rfl)).symm, HB.out.trans ((show Below wo.heap.size wo _ from (by repeat (first | assumption | exact Below.refl _ _ | (refine below_chain ?_ (by assumption) (by first | omega | (simp <;> omega) | simp)) | (refine Below.alloc ?_ (by first | omega | (simp <;> omega) | simp) _) | (apply below_drewN) | (apply below_drew) | (refine Below.setCell ?_ (by first | omega | (simp <;> omega) | simp) _)))).mono hbo)⟩) | (go_roundw; (case rel => exact ⟨j + 1 + 1, by omega, by omega, by go_num, HX.out.2.1 (HA.out.trans rfl), (by repeat (first | assumption | exact Below.refl _ _ | (refine below_chain ?_ (by assumption) (by first | omega | (simp <;> omega) | simp)) | (refine Below.alloc ?_ (by first | omega | (simp <;> omega) | simp) _) | (apply below_drewN) | (apply below_drew) | (refine Below.setCell ?_ (by first | omega | (simp <;> omega) | simp) _)))⟩); (case measure => simp [intOf]; omega))
                  · cases t1 <;> cases t2
                    all_goals go_wp2_with (first | ((go_at_call 65; (with_reducible refine ((c1 _).out).mono ?_); rintro e wa ⟨rfl, hb_wa⟩; have hs_wa := hb_wa.size; (try simp at hs_wa)); obtain ⟨hc_wa, hf_wa⟩ := bcell hb_wa; (have q0_wa : S0 < wa.heap.size := by omega); (have q1_wa : S1 < wa.heap.size := by omega); (have q2_wa : S2 < wa.heap.size := by omega); (have q3_wa : S3 < wa.heap.size := by omega)) | ((go_at_call 65; (with_reducible refine ((c2 _).out).mono ?_); rintro e wb ⟨rfl, hb_wb⟩; have hs_wb := hb_wb.size; (try simp at hs_wb)); obtain ⟨hc_wb, hf_wb⟩ := bcell hb_wb; (have q0_wb : S0 < wb.heap.size := by omega); (have q1_wb : S1 < wb.heap.size := by omega); (have q2_wb : S2 < wb.heap.size := by omega); (have q3_wb : S3 < wb.heap.size := by omega)))
                    all_goals first | (go_ret; exact ⟨ret_bool (HX.out.1 (by first | exact E1.out rfl | exact E1.out trivial | exact E2.out rfl | exact E2.out trivial | exact HA.out.trans rfl)).symm, HB.out.trans ((show Below wo.heap.size wo _ from (by repeat (first | assumption | exact Below.refl _ _ | (refine below_chain ?_ (by assumption) (by first | omega | (simp <;> omega) | simp)) | (refine Below.alloc ?_ (by first | omega | (simp <;> omega) | simp) _) | (apply below_drewN) | (apply below_drew) | (refine Below.setCell ?_ (by first | omega | (simp <;> omega) | simp) _)))).mono hbo)⟩) | (go_roundw; (case rel => exact ⟨j + 1 + 1, by omega, by omega, by go_num, HX.out.2.1 (HA.out.trans rfl), (by repeat (first | assumption | exact Below.refl _ _ | (refine below_chain ?_ (by assumption) (by first | omega | (simp <;> omega) | simp)) | (refine Below.alloc ?_ (by first | omega | (simp <;> omega) | simp) _) | (apply below_drewN) | (apply below_drew) | (refine Below.setCell ?_ (by first | omega | (simp <;> omega) | simp) _)))⟩); (case measure => simp [intOf]; omega))
                · cases t1 <;> cases t2
                  all_goals go_wp2_with (first | ((go_at_call 65; (with_reducible refine ((c1 _).out).mono ?_); rintro e wa ⟨rfl, hb_wa⟩; have hs_wa := hb_wa.size; (try simp at hs_wa)); obtain ⟨hc_wa, hf_wa⟩ := bcell hb_wa; (have q0_wa : S0 < wa.heap.size := by omega); (have q1_wa : S1 < wa.heap.size := by omega); (have q2_wa : S2 < wa.heap.size := by omega); (have q3_wa : S3 < wa.heap.size := by omega)) | ((go_at_call 65; (with_reducible refine ((c2 _).out).mono ?_); rintro e wb ⟨rfl, hb_wb⟩; have hs_wb := hb_wb.size; (try simp at hs_wb)); obtain ⟨hc_wb, hf_wb⟩ := bcell hb_wb; (have q0_wb : S0 < wb.heap.size := by omega); (have q1_wb : S1 < wb.heap.size := by omega); (have q2_wb : S2 < wb.heap.size := by omega); (have q3_wb : S3 < wb.heap.size := by omega)))
                  all_goals first | (go_ret; exact ⟨ret_bool (HX.out.1 (by first | exact E1.out rfl | exact E1.out trivial | exact E2.out rfl | exact E2.out trivial | exact HA.out.trans rfl)).symm, HB.out.trans ((show Below wo.heap.size wo _ from (by repeat (first | assumption | exact Below.refl _ _ | (refine below_chain ?_ (by assumption) (by first | omega | (simp <;> omega) | simp)) | (refine Below.alloc ?_ (by first | omega | (simp <;> omega) | simp) _) | (apply below_drewN) | (apply below_drew) | (refine Below.setCell ?_ (by first | omega | (simp <;> omega) | simp) _)))).mono hbo)⟩) | (go_roundw; (case rel => exact ⟨j + 1 + 1, by omega, by omega, by go_num, HX.out.2.1 (HA.out.trans rfl), (by repeat (first | assumption | exact Below.refl _ _ | (refine below_chain ?_ (by assumption) (by first | omega | (simp <;> omega) | simp)) | (refine Below.alloc ?_ (by first | omega | (simp <;> omega) | simp) _) | (apply below_drewN) | (apply below_drew) | (refine Below.setCell ?_ (by first | omega | (simp <;> omega) | simp) _)))⟩); (case measure => simp [intOf]; omega))
            · by_cases f3 : dx = bx
              · subst f3
                by_cases f4 : dy = b_y
                · subst f4
                  go_wp2_with fail
                  first | (go_ret; exact ⟨ret_bool (HX.out.1 (by first | exact E1.out rfl | exact E1.out trivial | exact E2.out rfl | exact E2.out trivial | exact HA.out.trans rfl)).symm, HB.out.trans ((show Below wo.heap.size wo _ from (by repeat (first | assumption | exact Below.refl _ _ | (refine below_chain ?_ (by assumption) (by first | omega | (simp <;> omega) | simp)) | (refine Below.alloc ?_ (by first | omega | (simp <;> omega) | simp) _) | (apply below_drewN) | (apply below_drew) | (refine Below.setCell ?_ (by first | omega | (simp <;> omega) | simp) _)))).mono hbo)⟩) | (go_roundw; (case rel => exact ⟨j + 1 + 1, by omega, by omega, by go_num, HX.out.2.1 (HA.out.trans rfl), (by repeat (first | assumption | exact Below.refl _ _ | (refine below_chain ?_ (by assumption) (by first | omega | (simp <;> omega) | simp)) | (refine Below.alloc ?_ (by first | omega | (simp <;> omega) | simp) _) | (apply below_drewN) | (apply below_drew) | (refine Below.setCell ?_ (by first | omega | (simp <;> omega) | simp) _)))⟩); (case measure => simp [intOf]; omega))
                · cases t1 <;> cases t2
                  all_goals go_wp2_with (first | ((go_at_call 65; (with_reducible refine ((c1 _).out).mono ?_); rintro e wa ⟨rfl, hb_wa⟩; have hs_wa := hb_wa.size; (try simp at hs_wa)); obtain ⟨hc_wa, hf_wa⟩ := bcell hb_wa; (have q0_wa : S0 < wa.heap.size := by omega); (have q1_wa : S1 < wa.heap.size := by omega); (have q2_wa : S2 < wa.heap.size := by omega); (have q3_wa : S3 < wa.heap.size := by omega)) | ((go_at_call 65; (with_reducible refine ((c2 _).out).mono ?_); rintro e wb ⟨rfl, hb_wb⟩; have hs_wb := hb_wb.size; (try simp at hs_wb)); obtain ⟨hc_wb, hf_wb⟩ := bcell hb_wb; (have q0_wb : S0 < wb.heap.size := by omega); (have q1_wb : S1 < wb.heap.size := by omega); (have q2_wb : S2 < wb.heap.size := by omega); (have q3_wb : S3 < wb.heap.size := by omega)))
                  all_goals first | (go_ret; exact ⟨ret_bool (HX.out.1 (by first | exact E1.out rfl | exact E1.out trivial | exact E2.out rfl | exact E2.out trivial | exact HA.out.trans rfl)).symm, HB.out.trans ((show Below wo.heap.size wo _ from (by repeat (first | assumption | exact Below.refl _ _ | (refine below_chain ?_ (by assumption) (by first | omega | (simp <;> omega) | simp)) | (refine Below.alloc ?_ (by first | omega | (simp <;> omega) | simp) _) | (apply below_drewN) | (apply below_drew) | (refine Below.setCell ?_ (by first | omega | (simp <;> omega) | simp) _)))).mono hbo)⟩) | (go_roundw; (case rel => exact ⟨j + 1 + 1, by omega, by omega, by go_num, HX.out.2.1 (HA.out.trans rfl), (by repeat (first | assumption | exact Below.refl _ _ | (refine below_chain ?_ (by assumption) (by first | omega | (simp <;> omega) | simp)) | (refine Below.alloc ?_ (by first | omega | (simp <;> omega) | simp) _) | (apply below_drewN) | (apply below_drew) | (refine Below.setCell ?_ (by first | omega | (simp <;> omega) | simp) _)))⟩); (case measure => simp [intOf]; omega))
              · cases t1 <;> cases t2
                all_goals go_wp2_with (first | ((go_at_call 65; (with_reducible refine ((c1 _).out).mono ?_); rintro e wa ⟨rfl, hb_wa⟩; have hs_wa := hb_wa.size; (try simp at hs_wa)); obtain ⟨hc_wa, hf_wa⟩ := bcell hb_wa; (have q0_wa : S0 < wa.heap.size := by omega); (have q1_wa : S1 < wa.heap.size := by omega); (have q2_wa : S2 < wa.heap.size := by omega); (have q3_wa : S3 < wa.heap.size := by omega)) | ((go_at_call 65; (with_reducible refine ((c2 _).out).mono ?_); rintro e wb ⟨rfl, hb_wb⟩; have hs_wb := hb_wb.size; (try simp at hs_wb)); obtain ⟨hc_wb, hf_wb⟩ := bcell hb_wb; (have q0_wb : S0 < wb.heap.size := by omega); (have q1_wb : S1 < wb.heap.size := by omega); (have q2_wb : S2 < wb.heap.size := by omega); (have q3_wb : S3 < wb.heap.size := by omega)))
                all_goals first | (go_ret; exact ⟨ret_bool (HX.out.1 (by first | exact E1.out rfl | exact E1.out trivial | exact E2.out rfl | exact E2.out trivial | exact HA.out.trans rfl)).symm, HB.out.trans ((show Below wo.heap.size wo _ from (by repeat (first | assumption | exact Below.refl _ _ | (refine below_chain ?_ (by assumption) (by first | omega | (simp <;> omega) | simp)) | (refine Below.alloc ?_ (by first | omega | (simp <;> omega) | simp) _) | (apply below_drewN) | (apply below_drew) | (refine Below.setCell ?_ (by first | omega | (simp <;> omega) | simp) _)))).mono hbo)⟩) | (go_roundw; (case rel => exact ⟨j + 1 + 1, by omega, by omega, by go_num, HX.out.2.1 (HA.out.trans rfl), (by repeat (first | assumption | exact Below.refl _ _ | (refine below_chain ?_ (by assumption) (by first | omega | (simp <;> omega) | simp)) | (refine Below.alloc ?_ (by first | omega | (simp <;> omega) | simp) _) | (apply below_drewN) | (apply below_drew) | (refine Below.setCell ?_ (by first | omega | (simp <;> omega) | simp) _)))⟩); (case measure => simp [intOf]; omega))
          · have hA' : ¬ (q : Int) = (j : Int) + 1 := by omega
            clear c1 c2 h1 h2
            have hbw := HX.out.2.2.1
            by_cases hB2 : (q + 1) % L.length = j
            · have hB2' : ((q : Int) + 1) % (L.length : Int) = (j : Int) := by rw [← hB2]; simp
              have HA : Hid (clash L j q = (t3 || t4)) := Lib.hid (by unfold clash; rw [if_neg hA, if_pos hB2, h3, h4])
              clear c5 h3 h4 h5 hB2
              cases t3 <;> cases t4
              all_goals go_wp2_with (first | ((go_at_call 65; (with_reducible refine ((c3 _).out).mono ?_); rintro e wa ⟨rfl, hb_wa⟩; have hs_wa := hb_wa.size; (try simp at hs_wa)); obtain ⟨hc_wa, hf_wa⟩ := bcell hb_wa; (have q0_wa : S0 < wa.heap.size := by omega); (have q1_wa : S1 < wa.heap.size := by omega); (have q2_wa : S2 < wa.heap.size := by omega); (have q3_wa : S3 < wa.heap.size := by omega)) | ((go_at_call 65; (with_reducible refine ((c4 _).out).mono ?_); rintro e wb ⟨rfl, hb_wb⟩; have hs_wb := hb_wb.size; (try simp at hs_wb)); obtain ⟨hc_wb, hf_wb⟩ := bcell hb_wb; (have q0_wb : S0 < wb.heap.size := by omega); (have q1_wb : S1 < wb.heap.size := by omega); (have q2_wb : S2 < wb.heap.size := by omega); (have q3_wb : S3 < wb.heap.size := by omega)))
              all_goals first | (go_ret; exact ⟨ret_bool (HX.out.1 (HA.out.trans rfl)).symm, HB.out.trans ((show Below wo.heap.size wo _ from (by repeat (first | assumption | exact Below.refl _ _ | (refine below_chain ?_ (by assumption) (by first | omega | (simp <;> omega) | simp)) | (refine Below.alloc ?_ (by first | omega | (simp <;> omega) | simp) _) | (apply below_drewN) | (apply below_drew) | (refine Below.setCell ?_ (by first | omega | (simp <;> omega) | simp) _)))).mono hbo)⟩) | (go_roundw; (case rel => exact ⟨q + 1, by omega, by omega, by go_num, HX.out.2.1 (HA.out.trans rfl), (by repeat (first | assumption | exact Below.refl _ _ | (refine below_chain ?_ (by assumption) (by first | omega | (simp <;> omega) | simp)) | (refine Below.alloc ?_ (by first | omega | (simp <;> omega) | simp) _) | (apply below_drewN) | (apply below_drew) | (refine Below.setCell ?_ (by first | omega | (simp <;> omega) | simp) _)))⟩); (case measure => simp [intOf]; omega))
            · have hB2' : ¬ ((q : Int) + 1) % (L.length : Int) = (j : Int) := fun h => hB2 (Int.ofNat.inj (show (((q + 1) % L.length : Nat) : Int) = (j : Int) by simpa using h))
              have HA : Hid (clash L j q = t5) := Lib.hid (by unfold clash; rw [if_neg hA, if_neg hB2, h5])
              clear c3 c4 h3 h4 h5 hB2
              cases t5
              all_goals go_wp2_with ((go_at_call 66; (with_reducible refine ((c5 _).out).mono ?_); rintro e wa ⟨rfl, hb_wa⟩; have hs_wa := hb_wa.size; (try simp at hs_wa)); obtain ⟨hc_wa, hf_wa⟩ := bcell hb_wa; (have q0_wa : S0 < wa.heap.size := by omega); (have q1_wa : S1 < wa.heap.size := by omega); (have q2_wa : S2 < wa.heap.size := by omega); (have q3_wa : S3 < wa.heap.size := by omega))
              all_goals first | (go_ret; exact ⟨ret_bool (HX.out.1 (HA.out.trans rfl)).symm, HB.out.trans ((show Below wo.heap.size wo _ from (by repeat (first | assumption | exact Below.refl _ _ | (refine below_chain ?_ (by assumption) (by first | omega | (simp <;> omega) | simp)) | (refine Below.alloc ?_ (by first | omega | (simp <;> omega) | simp) _) | (apply below_drewN) | (apply below_drew) | (refine Below.setCell ?_ (by first | omega | (simp <;> omega) | simp) _)))).mono hbo)⟩) | (go_roundw; (case rel => exact ⟨q + 1, by omega, by omega, by go_num, HX.out.2.1 (HA.out.trans rfl), (by repeat (first | assumption | exact Below.refl _ _ | (refine below_chain ?_ (by assumption) (by first | omega | (simp <;> omega) | simp)) | (refine Below.alloc ?_ (by first | omega | (simp <;> omega) | simp) _) | (apply below_drewN) | (apply below_drew) | (refine Below.setCell ?_ (by first | omega | (simp <;> omega) | simp) _)))⟩); (case measure => simp [intOf]; omega))
        · have e : q = L.length := by omega
          subst e
          have hql' : ¬ (L.length : Int) < (L.length : Int) := by omega
          go_wp2_with fail
          go_roundw
          case rel => exact ⟨j + 1, by omega, by go_num, Lib.hid (fun a k h1 h2 h3 => by
            by_cases e : a = j
            · subst e; exact hcq.out k h2 h3
            · exact hcl.out a k (by omega) h2 h3), HB.out.trans (hb.mono hbo)⟩
          case measure => simp [intOf]; omega
    · have e : j = L.length := by omega
      subst e
      have hlt' : ¬ (L.length : Int) < (L.length : Int) := by omega
      have hs : simple L = true := simple_of (fun i k h1 h2 => hcl.out i k (by omega) h1 h2)
      go_wp2_with fail
      go_ret
      exact ⟨rfl, HB.out⟩
theorem sPolyValid_off (h : Ints w p (fl L)) (hl : L.length ≤ 4000000000000000000) (hok : okP L = false) :
    Calls Try.prog 20 #[.slice p L.length c] w fun e w' => e = .returned (.bool false) ∧ Below w.heap.size w w' := by
  have c0 := fun w h => Lib.hid (sPoints (p := p) (c := c) (L := L) (w := w) h hl)
  rw [hok] at c0
  have H := Lib.hid h
  clear h hok
  go_enter Try.func20, Try.ntmps20
  go_wp2_with ((go_at_call 64; (with_reducible refine ((c0 _ ?_).out).mono ?_); (focus ((exact H.out); done)); rintro e wa ⟨rfl, hb_wa⟩; have hs_wa := hb_wa.size; (try simp at hs_wa)))
  go_ret
  exact ⟨rfl, (by repeat (first | assumption | exact Below.refl _ _ | (refine below_chain ?_ (by assumption) (by first | omega | (simp <;> omega) | simp)) | (refine Below.alloc ?_ (by first | omega | (simp <;> omega) | simp) _) | (apply below_drewN) | (apply below_drew) | (refine Below.setCell ?_ (by first | omega | (simp <;> omega) | simp) _)))⟩
theorem sPolyValid_no (h : Ints w p (fl L)) (hl : L.length ≤ 4000000000000000000) (hv : polyV L = false) :
    Calls Try.prog 20 #[.slice p L.length c] w fun e w' => e = .returned (.bool false) ∧ Below w.heap.size w w' := by
  cases hok : okP L
  · exact sPolyValid_off h hl hok
  · have hs : simple L = false := by unfold polyV at hv; rw [hok, Bool.true_and] at hv; exact hv
    rw [← hs]; exact sPolyValid_ok h hok
theorem sPolyValid_yes (h : Ints w p (fl L)) (hl : L.length ≤ 4000000000000000000) (hv : polyV L = true) :
    Calls Try.prog 20 #[.slice p L.length c] w fun e w' => e = .returned (.bool true) ∧ Below w.heap.size w w' := by
  unfold polyV at hv
  rw [Bool.and_eq_true] at hv
  rw [← hv.2]; exact sPolyValid_ok h hv.1
end
end Go.Proofs.Ytegcjdcinebleaa
