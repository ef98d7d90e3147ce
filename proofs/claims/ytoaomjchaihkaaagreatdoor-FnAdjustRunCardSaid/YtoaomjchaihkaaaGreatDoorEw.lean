/-
  The program's AdjustHeights, AdjustRun and AdjustRest, where the package's error variable holds an error.
-/
import Derived.Test.YtoaomjchaihkaaaGreatDoorEu
namespace Go.Proofs.YtoaomjchaihkaaaGreatDoor
open Go.RowKit
set_option linter.unusedVariables false

theorem iHeights_yes (N n : Nat) (p : Option Addr) (c m : Nat) (rs : List Rn) (w : World) (h : RunsE w p rs) (ha : adjOk (N : Int) rs = true) (hm : rs.length = m) (hNn : N = n + 1) :
    Calls Tryz.prog 7 #[.int .i64 N, .slice p m c] w fun e w' => ∃ g cap, e = .returned (.tuple #[.slice (some ⟨g, 0, none⟩) N cap, .bool true]) ∧ w.heap.size ≤ g ∧ Own w' g 36 2 N cap (flq (hqs n rs N)) ∧ Below w.heap.size w w' := by
  have hn := (whole_iff.1 (adj_true ha hNn).1).1
  refine (iAdjH N n p c m rs w h hn hm hNn).mono ?_
  rintro e w' ⟨hd, hb⟩
  rcases hd with ⟨_, g, cap, he, hg, ho⟩ | ⟨hx, _⟩
  · exact ⟨g, cap, he, hg, ho, hb⟩
  · rw [ha] at hx; cases hx
theorem iHeights_no (n : Int) (p : Option Addr) (c m : Nat) (rs : List Rn) (w : World) (h : RunsE w p rs) (hm : rs.length = m) (hl : m ≤ 4000000000000000000) (ha : adjOk n rs = false) :
    Calls Tryz.prog 7 #[.int .i64 n, .slice p m c] w fun e w' => (∃ q d, e = .returned (.tuple #[.slice q 0 d, .bool false])) ∧ Below w.heap.size w w' := by
  cases hn : nOk n rs
  · have c1 := fun w h => Lib.hid (iSource_no n p c m rs w h hm hl hn)
    have H := Lib.hid h.runs
    clear h hm hl ha hn
    go_enter Tryz.func7, Tryz.ntmps7
    go_wp2_with ((go_at_call 31; (with_reducible refine ((c1 _ ?_).out).mono ?_); (focus ((exact H.out); done)); rintro e wa ⟨⟨q, d, rfl⟩, hb_wa⟩; have hs_wa := hb_wa.size; (try simp at hs_wa)))
    refine bodyPost_ret (v := .tuple #[.slice none 0 0, .bool false]) (by simp [results, Tryz.results7, go_sem]) rfl ⟨⟨_, _, rfl⟩, hb_wa⟩
  · have h0 := (nOk_true hn).1
    obtain ⟨N, rfl⟩ : ∃ N : Nat, n = (N : Int) := ⟨n.toNat, by omega⟩
    refine (iAdjH N (N - 1) p c m rs w h hn hm (by omega)).mono ?_
    rintro e w' ⟨hd, hb⟩
    rcases hd with ⟨hx, _⟩ | ⟨_, he⟩
    · rw [ha] at hx; cases hx
    · exact ⟨⟨_, _, he⟩, hb⟩
set_option maxHeartbeats 4000000 in
set_option maxRecDepth 100000 in
theorem iRun_yes (N n k : Nat) (p : Option Addr) (c m : Nat) (rs : List Rn) (r : Rn) (w : World) (h : RunsE w p rs) (ha : adjOk (N : Int) rs = true) (hm : rs.length = m) (hNn : N = n + 1) (hr : rs[k]? = some r) :
    Calls Tryz.prog 18 #[.int .i64 N, .slice p m c, .int .i64 k] w fun e w' => e = .returned (.tuple #[.agg #[.int .i64 (vT (hT n rs r.t.toNat - hT n rs r.f.toNat) (dT n rs)), .int .i64 (vL (hT n rs r.t.toNat - hT n rs r.f.toNat) (dT n rs))], .bool (Quo.qO (hT n rs r.t.toNat - hT n rs r.f.toNat) (dT n rs))]) ∧ Below w.heap.size w w' := by
  obtain ⟨hw, hk⟩ := adj_true ha hNn
  have hn := (whole_iff.1 hw).1
  have hl : m ≤ 12 := by rw [← hm]; exact (nOk_true hn).2.2.1
  have hD0 : 0 < dT n rs := dT_pos (by rw [← hNn]; exact hw) (by rw [← hNn]; exact hn)
  have hkm : k < m := by rw [← hm]; exact (List.getElem?_eq_some_iff.1 hr).1
  have hkm' : (k : Int) < (m : Int) := by omega
  have c1 := fun w h => Lib.hid (iHeights_yes N n p c m rs w h ha hm hNn)
  have c2 := fun w => Lib.hid (nHasRun p m c k true w (by simp; omega))
  obtain ⟨B, o, r', rfl, hr', hB, e1, e2, e3, e4⟩ := h.runs.at (i := k) (by omega)
  obtain rfl : r = r' := by rw [hr] at hr'; cases hr'; rfl
  have hro := rOk_true ((nOk_true hn).2.2.2 k r hr)
  obtain ⟨F, hF⟩ : ∃ F : Nat, r.f = F := ⟨r.f.toNat, by omega⟩
  obtain ⟨T, hT'⟩ : ∃ T : Nat, r.t = T := ⟨r.t.toNat, by omega⟩
  have hFN : F < N := by omega
  have hTN : T < N := by omega
  have hFN' : (F : Int) < (N : Int) := by omega
  have hTN' : (T : Int) < (N : Int) := by omega
  have v1 := Quo.Val.of (N := hT n rs T) (D := dT n rs) (by omega) (okH_true.1 hk T (by omega))
  have v2 := Quo.Val.of (N := hT n rs F) (D := dT n rs) (by omega) (okH_true.1 hk F (by omega))
  have hv := v_of (a := 0) (b := 0) (v1.take v2)
  rw [hF, hT', Int.toNat_natCast, Int.toNat_natCast]
  rw [hF] at e1
  rw [hT'] at e2
  have HQ := fun w g cap (ho : Own w g 36 2 N cap (flq (hqs n rs N))) => And.intro (quo_own ho hTN) (quo_own ho hFN)
  obtain ⟨x1, hx1⟩ : ∃ x, Quo.T (hT n rs T) (dT n rs) = x := ⟨_, rfl⟩
  obtain ⟨y1, hy1⟩ : ∃ x, Quo.L (hT n rs T) (dT n rs) = x := ⟨_, rfl⟩
  obtain ⟨x2, hx2⟩ : ∃ x, Quo.T (hT n rs F) (dT n rs) = x := ⟨_, rfl⟩
  obtain ⟨y2, hy2⟩ : ∃ x, Quo.L (hT n rs F) (dT n rs) = x := ⟨_, rfl⟩
  rw [hx1, hy1, hx2, hy2] at hv
  have HL : -9223372036854775808 ≤ x2 ∧ x2 ≤ 9223372036854775807 := by have := Quo.qv_true v2.1; rw [hx2] at this; omega
  have HQ := fun w g cap (ho : Own w g 36 2 N cap (flq (hqs n rs N))) => (show (w.cell? ⟨g, T * 2, none⟩ = some (.int .i64 x1) ∧ w.cell? ⟨g, T * 2 + 1, none⟩ = some (.int .i64 y1)) ∧ (w.cell? ⟨g, F * 2, none⟩ = some (.int .i64 x2) ∧ w.cell? ⟨g, F * 2 + 1, none⟩ = some (.int .i64 y2)) from by rw [← hx1, ← hy1, ← hx2, ← hy2]; exact HQ w g cap ho)
  obtain ⟨X, hX⟩ : ∃ X, vT (hT n rs T - hT n rs F) (dT n rs) = X := ⟨_, rfl⟩
  obtain ⟨Y, hY⟩ : ∃ Y, vL (hT n rs T - hT n rs F) (dT n rs) = Y := ⟨_, rfl⟩
  obtain ⟨b, hb⟩ : ∃ b, Quo.qO (hT n rs T - hT n rs F) (dT n rs) = b := ⟨_, rfl⟩
  rw [hX, hY, hb] at hv ⊢
  have c3 := fun w => Lib.hid (by have := iTake_any x1 y1 x2 y2 w HL.1 HL.2; rw [hv.1, hv.2.1, hv.2.2] at this; exact this)
  have H := Lib.hid h
  clear h hw hk hn hm ha hNn hr hr' hro hF hT' v1 v2 hv hx1 hy1 hx2 hy2 hX hY hb hD0 e3 e4
  go_enter Tryz.func18, Tryz.ntmps18
  go_upto_region 4 with (first
    | ((go_at_call 7; (with_reducible refine ((c1 _ ?_).out).mono ?_); (focus ((exact H.out.below (by repeat (first | assumption | exact Below.refl _ _ | (refine below_chain ?_ (by assumption) (by first | omega | (simp <;> omega) | simp)) | (refine Below.alloc ?_ (by first | omega | (simp <;> omega) | simp) _) | (apply below_drewN) | (apply below_drew) | (refine Below.setCell ?_ (by first | omega | (simp <;> omega) | simp) _)))); done)); rintro e wa ⟨g, cap, rfl, hg, ho, hb_wa⟩; have hs_wa := hb_wa.size; (try simp at hs_wa)); have HO := Lib.hid ho; clear ho)
    | (go_at_call 48; (with_reducible refine ((c2 _).out).mono ?_); rintro e w' ⟨rfl, rfl⟩))
  have hBa : Below w.heap.size w wa := (by repeat (first | assumption | exact Below.refl _ _ | (refine below_chain ?_ (by assumption) (by first | omega | (simp <;> omega) | simp)) | (refine Below.alloc ?_ (by first | omega | (simp <;> omega) | simp) _) | (apply below_drewN) | (apply below_drew) | (refine Below.setCell ?_ (by first | omega | (simp <;> omega) | simp) _)))
  have d1 := cell_below_keep hBa e1
  have d2 := cell_below_keep hBa e2
  obtain ⟨⟨k1, k2⟩, k3, k4⟩ := HQ wa g cap HO.out
  have hgl := HO.out.lt
  have hrc : wa.cell? ⟨w.heap.size, 0, none⟩ = some (.int .i64 0) ∧ wa.cell? ⟨w.heap.size, 1, none⟩ = some (.int .i64 0) ∧ wa.frozen? ⟨w.heap.size, 0, none⟩ = false ∧ wa.frozen? ⟨w.heap.size, 1, none⟩ = false := by
    have hb1 := hb_wa
    refine ⟨cell_below_keep hb1 (by simp [go_sem]), cell_below_keep hb1 (by simp [go_sem]), ?_, ?_⟩
    · rw [hb1.frozen (by simp)]; simp [go_sem]
    · rw [hb1.frozen (by simp)]; simp [go_sem]
  have hB1 : ¬ B = w.heap.size := by omega
  have hB2 : ¬ w.heap.size = B := by omega
  have hg' : w.heap.size < g := by simp at hg; omega
  have hg1 : ¬ g = w.heap.size := by omega
  have hg2 : ¬ w.heap.size = g := by omega
  obtain ⟨q1, q2, q3, q4⟩ := hrc
  go_region_held3 (fun W => W.cell? ⟨B, o + k * 4, none⟩ = some (.int .i64 (F : Int)) ∧ W.cell? ⟨B, o + k * 4 + 1, none⟩ = some (.int .i64 (T : Int)) ∧ W.cell? ⟨g, T * 2, none⟩ = some (.int .i64 x1) ∧ W.cell? ⟨g, T * 2 + 1, none⟩ = some (.int .i64 y1) ∧ W.cell? ⟨g, F * 2, none⟩ = some (.int .i64 x2) ∧ W.cell? ⟨g, F * 2 + 1, none⟩ = some (.int .i64 y2)) (first | (go_keep; done) | ((with_reducible refine cell_below_keep (by with_reducible assumption) ?_); with_reducible assumption))
    (first | (go_at_call 49; (with_reducible refine ((c3 _).out).mono ?_); rintro e w2 ⟨rfl, hb_w2⟩; have l1 := cell_below_keep hb_w2 (cell_drew_keep d1); have l2 := cell_below_keep hb_w2 (cell_drew_keep d2); have l3 := cell_below_keep hb_w2 (cell_drew_keep k1); have l4 := cell_below_keep hb_w2 (cell_drew_keep k2); have l5 := cell_below_keep hb_w2 (cell_drew_keep k3); have l6 := cell_below_keep hb_w2 (cell_drew_keep k4); have r1 := cell_below_keep hb_w2 (cell_drew_keep q1); have r2 := cell_below_keep hb_w2 (cell_drew_keep q2); have r3 := frozen_below_kE hb_w2 (cell_drew_keep q1) q3; have r4 := frozen_below_kE hb_w2 (cell_drew_keep q2) q4))
  have hB9 : Below w.heap.size w w2 := hBa.trans (((below_drew (Below.refl _ _)).trans hb_w2).mono hBa.size)
  go_wp2_with fail
  refine bodyPost_ret (v := .tuple #[.agg #[.int .i64 X, .int .i64 Y], .bool b]) (by simp [results, Tryz.results18, go_sem, r1, r2]) rfl ⟨rfl, (hB9.setCell (Nat.le_refl _) _).setCell (Nat.le_refl _) _⟩
set_option maxHeartbeats 2000000 in
theorem iRun_no (n k : Int) (p : Option Addr) (c m : Nat) (rs : List Rn) (w : World) (h : RunsE w p rs) (hm : rs.length = m) (hl : m ≤ 4000000000000000000) (hno : ¬ (adjOk n rs = true ∧ 0 ≤ k ∧ k < m)) :
    Calls Tryz.prog 18 #[.int .i64 n, .slice p m c, .int .i64 k] w fun e w' => e = .returned (.tuple #[.agg #[.int .i64 0, .int .i64 0], .bool false]) ∧ Below w.heap.size w w' := by
  have H := Lib.hid h
  cases ha : adjOk n rs
  · have c1 := fun w h => Lib.hid (iHeights_no n p c m rs w h hm hl ha)
    clear h hm hno ha
    go_enter Tryz.func18, Tryz.ntmps18
    go_upto_region 3 with ((go_at_call 7; (with_reducible refine ((c1 _ ?_).out).mono ?_); (focus ((exact H.out.below (by repeat (first | assumption | exact Below.refl _ _ | (refine below_chain ?_ (by assumption) (by first | omega | (simp <;> omega) | simp)) | (refine Below.alloc ?_ (by first | omega | (simp <;> omega) | simp) _) | (apply below_drewN) | (apply below_drew) | (refine Below.setCell ?_ (by first | omega | (simp <;> omega) | simp) _)))); done)); rintro e wa ⟨⟨q, d, rfl⟩, hb_wa⟩; have hs_wa := hb_wa.size; (try simp at hs_wa)))
    obtain ⟨q1, q2, q3, q4⟩ := res_cell hb_wa
    have hBa : Below w.heap.size w wa := (by repeat (first | assumption | exact Below.refl _ _ | (refine below_chain ?_ (by assumption) (by first | omega | (simp <;> omega) | simp)) | (refine Below.alloc ?_ (by first | omega | (simp <;> omega) | simp) _) | (apply below_drewN) | (apply below_drew) | (refine Below.setCell ?_ (by first | omega | (simp <;> omega) | simp) _)))
    go_wp2_with fail
    refine bodyPost_ret (v := .tuple #[.agg #[.int .i64 0, .int .i64 0], .bool false]) (by simp [results, Tryz.results18, go_sem, q1, q2]) rfl ⟨rfl, (hBa.setCell (Nat.le_refl _) _).setCell (Nat.le_refl _) _⟩
  · obtain ⟨N, M, rfl, hNM⟩ := adj_nat ha
    have hn := (whole_iff.1 (adj_true ha hNM).1).1
    have hl12 : m ≤ 12 := by rw [← hm]; exact (nOk_true hn).2.2.1
    have c1 := fun w h => Lib.hid (iHeights_yes N M p c m rs w h ha hm hNM)
    have c2 := fun w => Lib.hid (nHasRun p m c k false w (decide_eq_false (fun hc => hno ⟨ha, by omega, by omega⟩)))
    clear h hm hno ha hNM hn
    go_enter Tryz.func18, Tryz.ntmps18
    go_upto_region 3 with (first
      | ((go_at_call 7; (with_reducible refine ((c1 _ ?_).out).mono ?_); (focus ((exact H.out.below (by repeat (first | assumption | exact Below.refl _ _ | (refine below_chain ?_ (by assumption) (by first | omega | (simp <;> omega) | simp)) | (refine Below.alloc ?_ (by first | omega | (simp <;> omega) | simp) _) | (apply below_drewN) | (apply below_drew) | (refine Below.setCell ?_ (by first | omega | (simp <;> omega) | simp) _)))); done)); rintro e wa ⟨g, cap, rfl, hg, ho, hb_wa⟩; have hs_wa := hb_wa.size; (try simp at hs_wa)); have HO := Lib.hid ho; clear ho)
      | (go_at_call 48; (with_reducible refine ((c2 _).out).mono ?_); rintro e w' ⟨rfl, rfl⟩))
    obtain ⟨q1, q2, q3, q4⟩ := res_cell hb_wa
    have hBa : Below w.heap.size w wa := (by repeat (first | assumption | exact Below.refl _ _ | (refine below_chain ?_ (by assumption) (by first | omega | (simp <;> omega) | simp)) | (refine Below.alloc ?_ (by first | omega | (simp <;> omega) | simp) _) | (apply below_drewN) | (apply below_drew) | (refine Below.setCell ?_ (by first | omega | (simp <;> omega) | simp) _)))
    go_wp2_with fail
    refine bodyPost_ret (v := .tuple #[.agg #[.int .i64 0, .int .i64 0], .bool false]) (by simp [results, Tryz.results18, go_sem, q1, q2]) rfl ⟨rfl, (hBa.setCell (Nat.le_refl _) _).setCell (Nat.le_refl _) _⟩
set_option maxHeartbeats 4000000 in
set_option maxRecDepth 100000 in
theorem iRest_yes (N n k : Nat) (p : Option Addr) (c m : Nat) (rs : List Rn) (r : Rn) (w : World) (h : RunsE w p rs) (ha : adjOk (N : Int) rs = true) (hm : rs.length = m) (hNn : N = n + 1) (hr : rs[k]? = some r) :
    Calls Tryz.prog 25 #[.int .i64 N, .slice p m c, .int .i64 k] w fun e w' => e = .returned (.tuple #[.agg #[.int .i64 (rsT n rs r), .int .i64 (rsL n rs r)], .bool (rsB n rs r)]) ∧ Below w.heap.size w w' := by
  obtain ⟨hw, hk⟩ := adj_true ha hNn
  have hn := (whole_iff.1 hw).1
  have hl : m ≤ 12 := by rw [← hm]; exact (nOk_true hn).2.2.1
  have hD0 : 0 < dT n rs := dT_pos (by rw [← hNn]; exact hw) (by rw [← hNn]; exact hn)
  have hkm : k < m := by rw [← hm]; exact (List.getElem?_eq_some_iff.1 hr).1
  have hkm' : (k : Int) < (m : Int) := by omega
  have c1 := fun w h => Lib.hid (iRun_yes N n k p c m rs r w h ha hm hNn hr)
  obtain ⟨B, o, r', rfl, hr', hB, e1, e2, e3, e4⟩ := h.runs.at (i := k) (by omega)
  obtain rfl : r = r' := by rw [hr] at hr'; cases hr'; rfl
  have hro := rOk_true ((nOk_true hn).2.2.2 k r hr)
  have H := Lib.hid h
  cases hq : Quo.qO (hT n rs r.t.toNat - hT n rs r.f.toNat) (dT n rs)
  · have hT0 : vT (hT n rs r.t.toNat - hT n rs r.f.toNat) (dT n rs) = 0 := by unfold vT; rw [hq]; rfl
    have hL0 : vL (hT n rs r.t.toNat - hT n rs r.f.toNat) (dT n rs) = 0 := by unfold vL; rw [hq]; rfl
    have h1 : rsT n rs r = 0 := by unfold rsT; rw [hq]; rfl
    have h2 : rsL n rs r = 0 := by unfold rsL; rw [hq]; rfl
    have h3 : rsB n rs r = false := by unfold rsB; rw [hq]; rfl
    rw [h1, h2, h3]
    rw [hq, hT0, hL0] at c1
    clear h hw hk hn hm ha hNn hr hr' hro hq hT0 hL0 h1 h2 h3 hD0 e1 e2 e3 e4
    go_enter Tryz.func25, Tryz.ntmps25
    go_upto_region 3 with ((go_at_call 18; (with_reducible refine ((c1 _ ?_).out).mono ?_); (focus ((exact H.out.below (by repeat (first | assumption | exact Below.refl _ _ | (refine below_chain ?_ (by assumption) (by first | omega | (simp <;> omega) | simp)) | (refine Below.alloc ?_ (by first | omega | (simp <;> omega) | simp) _) | (apply below_drewN) | (apply below_drew) | (refine Below.setCell ?_ (by first | omega | (simp <;> omega) | simp) _)))); done)); rintro e wa ⟨rfl, hb_wa⟩; have hs_wa := hb_wa.size; (try simp at hs_wa)))
    obtain ⟨q1, q2, q3, q4⟩ := res_cell hb_wa
    have hBa : Below w.heap.size w wa := (by repeat (first | assumption | exact Below.refl _ _ | (refine below_chain ?_ (by assumption) (by first | omega | (simp <;> omega) | simp)) | (refine Below.alloc ?_ (by first | omega | (simp <;> omega) | simp) _) | (apply below_drewN) | (apply below_drew) | (refine Below.setCell ?_ (by first | omega | (simp <;> omega) | simp) _)))
    have hsa : w.heap.size < wa.heap.size := World.block_lt_of_cell? wa _ q1
    go_wp2_with fail
    have hB9 : Below w.heap.size w (((wa.setCell ⟨w.heap.size, 0, none⟩ (.int .i64 0)).setCell ⟨w.heap.size, 1, none⟩ (.int .i64 0)).alloc (.cells #[.int .i64 0, .int .i64 0] 36)) := ((hBa.setCell (Nat.le_refl _) _).setCell (Nat.le_refl _) _).alloc (by simp; omega) _
    have z1 : (((wa.setCell ⟨w.heap.size, 0, none⟩ (.int .i64 0)).setCell ⟨w.heap.size, 1, none⟩ (.int .i64 0)).alloc (.cells #[.int .i64 0, .int .i64 0] 36)).cell? ⟨w.heap.size, 0, none⟩ = some (.int .i64 0) := cell_below_keep ((Below.refl _ _).alloc (Nat.le_refl _) _) (by simp [go_sem, q1])
    have z2 : (((wa.setCell ⟨w.heap.size, 0, none⟩ (.int .i64 0)).setCell ⟨w.heap.size, 1, none⟩ (.int .i64 0)).alloc (.cells #[.int .i64 0, .int .i64 0] 36)).cell? ⟨w.heap.size, 1, none⟩ = some (.int .i64 0) := cell_below_keep ((Below.refl _ _).alloc (Nat.le_refl _) _) (by simp [go_sem, q2])
    obtain ⟨W, hW⟩ : ∃ W, W = ((wa.setCell ⟨w.heap.size, 0, none⟩ (.int .i64 0)).setCell ⟨w.heap.size, 1, none⟩ (.int .i64 0)).alloc (.cells #[.int .i64 0, .int .i64 0] 36) := ⟨_, rfl⟩
    rw [← hW] at hB9 z1 z2 ⊢
    refine bodyPost_ret (v := .tuple #[.agg #[.int .i64 0, .int .i64 0], .bool false]) (by simp [results, Tryz.results25, go_sem, z1, z2]) rfl ⟨rfl, hB9⟩
  · have v1 := Quo.Val.of (N := hT n rs r.t.toNat - hT n rs r.f.toNat) (D := dT n rs) (by omega) hq
    have v2 := Quo.Val.whole (x := r.s) (D := dT n rs) (by omega) (by omega) (by omega)
    have hre : hT n rs r.t.toNat - hT n rs r.f.toNat - r.s * dT n rs = rest n rs r := by unfold rest; rw [Int.mul_comm]
    have hv := v_of (a := 0) (b := 0) (v1.take v2)
    rw [hre] at hv
    have hT0 : vT (hT n rs r.t.toNat - hT n rs r.f.toNat) (dT n rs) = Quo.T (hT n rs r.t.toNat - hT n rs r.f.toNat) (dT n rs) := by unfold vT; rw [if_pos hq]
    have hL0 : vL (hT n rs r.t.toNat - hT n rs r.f.toNat) (dT n rs) = Quo.L (hT n rs r.t.toNat - hT n rs r.f.toNat) (dT n rs) := by unfold vL; rw [if_pos hq]
    have h1 : rsT n rs r = vT (rest n rs r) (dT n rs) := by unfold rsT; rw [if_pos hq]
    have h2 : rsL n rs r = vL (rest n rs r) (dT n rs) := by unfold rsL; rw [if_pos hq]
    have h3 : rsB n rs r = Quo.qO (rest n rs r) (dT n rs) := by unfold rsB; rw [hq]; rfl
    rw [h1, h2, h3]
    rw [hq, hT0, hL0] at c1
    obtain ⟨x1, hx1⟩ : ∃ x, Quo.T (hT n rs r.t.toNat - hT n rs r.f.toNat) (dT n rs) = x := ⟨_, rfl⟩
    obtain ⟨y1, hy1⟩ : ∃ x, Quo.L (hT n rs r.t.toNat - hT n rs r.f.toNat) (dT n rs) = x := ⟨_, rfl⟩
    rw [hx1, hy1] at hv c1
    obtain ⟨X, hX⟩ : ∃ X, vT (rest n rs r) (dT n rs) = X := ⟨_, rfl⟩
    obtain ⟨Y, hY⟩ : ∃ Y, vL (rest n rs r) (dT n rs) = Y := ⟨_, rfl⟩
    obtain ⟨b, hb⟩ : ∃ b, Quo.qO (rest n rs r) (dT n rs) = b := ⟨_, rfl⟩
    rw [hX, hY, hb] at hv ⊢
    have c3 := fun w => Lib.hid (by have := iTake_any x1 y1 r.s 1 w (by omega) (by omega); rw [hv.1, hv.2.1, hv.2.2] at this; exact this)
    clear h hw hk hn hm ha hNn hr hr' hro hq hT0 hL0 h1 h2 h3 hD0 e1 e2 e4 v1 v2 hre hv hx1 hy1 hX hY hb
    go_enter Tryz.func25, Tryz.ntmps25
    go_upto_region 4 with ((go_at_call 18; (with_reducible refine ((c1 _ ?_).out).mono ?_); (focus ((exact H.out.below (by repeat (first | assumption | exact Below.refl _ _ | (refine below_chain ?_ (by assumption) (by first | omega | (simp <;> omega) | simp)) | (refine Below.alloc ?_ (by first | omega | (simp <;> omega) | simp) _) | (apply below_drewN) | (apply below_drew) | (refine Below.setCell ?_ (by first | omega | (simp <;> omega) | simp) _)))); done)); rintro e wa ⟨rfl, hb_wa⟩; have hs_wa := hb_wa.size; (try simp at hs_wa)))
    obtain ⟨q1, q2, q3, q4⟩ := res_cell hb_wa
    have hBa : Below w.heap.size w wa := (by repeat (first | assumption | exact Below.refl _ _ | (refine below_chain ?_ (by assumption) (by first | omega | (simp <;> omega) | simp)) | (refine Below.alloc ?_ (by first | omega | (simp <;> omega) | simp) _) | (apply below_drewN) | (apply below_drew) | (refine Below.setCell ?_ (by first | omega | (simp <;> omega) | simp) _)))
    have hsa : w.heap.size < wa.heap.size := World.block_lt_of_cell? wa _ q1
    have d3 := cell_below_keep hBa e3
    have hal : Below wa.heap.size wa (wa.alloc (.cells #[.int .i64 x1, .int .i64 y1] 36)) := (Below.refl _ _).alloc (Nat.le_refl _) _
    have m1 := cell_below_keep hal q1
    have m2 := cell_below_keep hal q2
    have m3 := frozen_below_kE hal q1 q3
    have m4 := frozen_below_kE hal q2 q4
    have m5 := cell_below_keep hal d3
    have m6 : (wa.alloc (.cells #[.int .i64 x1, .int .i64 y1] 36)).cell? ⟨wa.heap.size, 0, none⟩ = some (.int .i64 x1) := by simp [go_sem]
    have m7 : (wa.alloc (.cells #[.int .i64 x1, .int .i64 y1] 36)).cell? ⟨wa.heap.size, 1, none⟩ = some (.int .i64 y1) := by simp [go_sem]
    have hBV := hBa.trans (hal.mono hBa.size)
    obtain ⟨V, hV⟩ : ∃ V, V = wa.alloc (.cells #[.int .i64 x1, .int .i64 y1] 36) := ⟨_, rfl⟩
    obtain ⟨R, hR⟩ : ∃ R, R = wa.heap.size := ⟨_, rfl⟩
    rw [← hV] at m1 m2 m3 m4 m5 m6 m7 hBV ⊢
    rw [← hR] at m6 m7 hsa ⊢
    have hRw : ¬ R = w.heap.size := by omega
    have hwR : ¬ w.heap.size = R := by omega
    have hB1 : ¬ B = w.heap.size := by omega
    have hB2 : ¬ w.heap.size = B := by omega
    clear hal hV hR q1 q2 q3 q4 d3 hb_wa c1
    go_region_held3 (fun W => W.cell? ⟨R, 0, none⟩ = some (.int .i64 x1) ∧ W.cell? ⟨R, 1, none⟩ = some (.int .i64 y1) ∧ W.cell? ⟨B, o + k * 4 + 2, none⟩ = some (.int .i64 r.s)) (first | (go_keep; done) | ((with_reducible refine cell_below_keep (by with_reducible assumption) ?_); with_reducible assumption))
      (first | (go_at_call 49; (with_reducible refine ((c3 _).out).mono ?_); rintro e w2 ⟨rfl, hb_w2⟩; have l1 := cell_below_keep hb_w2 (cell_drew_keep m6); have l2 := cell_below_keep hb_w2 (cell_drew_keep m7); have l3 := cell_below_keep hb_w2 (cell_drew_keep m5); have r1 := cell_below_keep hb_w2 (cell_drew_keep m1); have r2 := cell_below_keep hb_w2 (cell_drew_keep m2); have r3 := frozen_below_kE hb_w2 (cell_drew_keep m1) m3; have r4 := frozen_below_kE hb_w2 (cell_drew_keep m2) m4))
    have hB9 : Below w.heap.size w w2 := hBV.trans (((below_drew (Below.refl _ _)).trans hb_w2).mono hBV.size)
    go_wp2_with fail
    refine bodyPost_ret (v := .tuple #[.agg #[.int .i64 X, .int .i64 Y], .bool b]) (by simp [results, Tryz.results25, go_sem, r1, r2]) rfl ⟨rfl, (hB9.setCell (Nat.le_refl _) _).setCell (Nat.le_refl _) _⟩
theorem iRest_no (n k : Int) (p : Option Addr) (c m : Nat) (rs : List Rn) (w : World) (h : RunsE w p rs) (hm : rs.length = m) (hl : m ≤ 4000000000000000000) (hno : ¬ (adjOk n rs = true ∧ 0 ≤ k ∧ k < m)) :
    Calls Tryz.prog 25 #[.int .i64 n, .slice p m c, .int .i64 k] w fun e w' => e = .returned (.tuple #[.agg #[.int .i64 0, .int .i64 0], .bool false]) ∧ Below w.heap.size w w' := by
  have H := Lib.hid h
  have c1 := fun w h => Lib.hid (iRun_no n k p c m rs w h hm hl hno)
  clear h hm hno
  go_enter Tryz.func25, Tryz.ntmps25
  go_upto_region 3 with ((go_at_call 18; (with_reducible refine ((c1 _ ?_).out).mono ?_); (focus ((exact H.out.below (by repeat (first | assumption | exact Below.refl _ _ | (refine below_chain ?_ (by assumption) (by first | omega | (simp <;> omega) | simp)) | (refine Below.alloc ?_ (by first | omega | (simp <;> omega) | simp) _) | (apply below_drewN) | (apply below_drew) | (refine Below.setCell ?_ (by first | omega | (simp <;> omega) | simp) _)))); done)); rintro e wa ⟨rfl, hb_wa⟩; have hs_wa := hb_wa.size; (try simp at hs_wa)))
  obtain ⟨q1, q2, q3, q4⟩ := res_cell hb_wa
  have hBa : Below w.heap.size w wa := (by repeat (first | assumption | exact Below.refl _ _ | (refine below_chain ?_ (by assumption) (by first | omega | (simp <;> omega) | simp)) | (refine Below.alloc ?_ (by first | omega | (simp <;> omega) | simp) _) | (apply below_drewN) | (apply below_drew) | (refine Below.setCell ?_ (by first | omega | (simp <;> omega) | simp) _)))
  have hsa : w.heap.size < wa.heap.size := World.block_lt_of_cell? wa _ q1
  go_wp2_with fail
  have hB9 : Below w.heap.size w (((wa.setCell ⟨w.heap.size, 0, none⟩ (.int .i64 0)).setCell ⟨w.heap.size, 1, none⟩ (.int .i64 0)).alloc (.cells #[.int .i64 0, .int .i64 0] 36)) := ((hBa.setCell (Nat.le_refl _) _).setCell (Nat.le_refl _) _).alloc (by simp; omega) _
  have z1 : (((wa.setCell ⟨w.heap.size, 0, none⟩ (.int .i64 0)).setCell ⟨w.heap.size, 1, none⟩ (.int .i64 0)).alloc (.cells #[.int .i64 0, .int .i64 0] 36)).cell? ⟨w.heap.size, 0, none⟩ = some (.int .i64 0) := cell_below_keep ((Below.refl _ _).alloc (Nat.le_refl _) _) (by simp [go_sem, q1])
  have z2 : (((wa.setCell ⟨w.heap.size, 0, none⟩ (.int .i64 0)).setCell ⟨w.heap.size, 1, none⟩ (.int .i64 0)).alloc (.cells #[.int .i64 0, .int .i64 0] 36)).cell? ⟨w.heap.size, 1, none⟩ = some (.int .i64 0) := cell_below_keep ((Below.refl _ _).alloc (Nat.le_refl _) _) (by simp [go_sem, q2])
  obtain ⟨W, hW⟩ : ∃ W, W = ((wa.setCell ⟨w.heap.size, 0, none⟩ (.int .i64 0)).setCell ⟨w.heap.size, 1, none⟩ (.int .i64 0)).alloc (.cells #[.int .i64 0, .int .i64 0] 36) := ⟨_, rfl⟩
  rw [← hW] at hB9 z1 z2 ⊢
  refine bodyPost_ret (v := .tuple #[.agg #[.int .i64 0, .int .i64 0], .bool false]) (by simp [results, Tryz.results25, go_sem, z1, z2]) rfl ⟨rfl, hB9⟩
end Go.Proofs.YtoaomjchaihkaaaGreatDoor
