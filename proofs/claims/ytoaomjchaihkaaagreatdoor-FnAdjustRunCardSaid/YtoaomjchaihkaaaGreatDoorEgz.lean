/-
  The reference model's adjusted rises and rests.
  The reference model's AdjustTry.
  The reference model's AdjustSum.
-/
import Derived.Test.YtoaomjchaihkaaaGreatDoorEfz
namespace Go.Proofs.YtoaomjchaihkaaaGreatDoor
open Go.RowKit
set_option linter.unusedVariables false

/-- a value as a quotient, where it is valid -/
def vT (N D : Int) : Int := if Quo.qO N D = true then Quo.T N D else 0
def vL (N D : Int) : Int := if Quo.qO N D = true then Quo.L N D else 0
theorem v_of {a b x y N D : Int} {c : Bool} (h : c = Quo.qO N D ∧ (Quo.qO N D = true → x = Quo.T N D ∧ y = Quo.L N D) ∧ (Quo.qO N D = false → x = 0 ∧ y = 0)) : x = vT N D ∧ y = vL N D ∧ c = Quo.qO N D := by
  obtain ⟨h1, h2, h3⟩ := h
  unfold vT vL
  cases hq : Quo.qO N D
  · rw [(h3 hq).1, (h3 hq).2]; exact ⟨by simp, by simp, by rw [h1, hq]⟩
  · rw [(h2 hq).1, (h2 hq).2]; exact ⟨by simp, by simp, by rw [h1, hq]⟩
/-- AdjustHeights succeeds -/
noncomputable def adjOk (n : Int) (rs : List Rn) : Bool := nWhole n rs && okH (n.toNat - 1) rs
theorem adj_true {N n : Nat} {rs : List Rn} (h : adjOk (N : Int) rs = true) (hNn : N = n + 1) : nWhole (N : Int) rs = true ∧ okH n rs = true := by
  unfold adjOk at h
  simp only [Bool.and_eq_true, Int.toNat_natCast] at h
  rw [hNn, Nat.add_sub_cancel] at h
  rw [hNn]; exact h
theorem sWhole_m {n : Int} {p : Option Addr} {c m : Nat} {rs : List Rn} {b : Bool} (w : World) (hm : rs.length = m) (h : Runs w p rs) (hl : m ≤ 4000000000000000000) (hb : nWhole n rs = b) :
    Calls Tryz.prog 37 #[.int .i64 n, .slice p m c] w fun e w' => e = .returned (.bool b) ∧ Below w.heap.size w w' := by
  subst hm; exact sWhole n p c rs b w h hl hb
theorem sHeights_yes (N n : Nat) (p : Option Addr) (c m : Nat) (rs : List Rn) (w : World) (h : Runs w p rs) (ha : adjOk (N : Int) rs = true) (hm : rs.length = m) (hNn : N = n + 1) :
    Calls Tryz.prog 8 #[.int .i64 N, .slice p m c] w fun e w' => ∃ g cap, e = .returned (.tuple #[.slice (some ⟨g, 0, none⟩) N cap, .bool true]) ∧ w.heap.size ≤ g ∧ Own w' g 36 2 N cap (flq (hqs n rs N)) ∧ Below w.heap.size w w' := by
  obtain ⟨hw, hk⟩ := adj_true ha hNn
  have hn := (whole_iff.1 hw).1
  have hl : m ≤ 12 := by rw [← hm]; exact (nOk_true hn).2.2.1
  have c1 := fun w h => Lib.hid (sWhole_m (p := p) (c := c) w hm h (by omega) hw)
  have c2 := fun w h => Lib.hid ((sL23 N n p c m rs w h hw hn hm hNn).mono (by
    rintro e w' ⟨hd, hb⟩
    rcases hd with ⟨_, g, cap, he, hg, ho⟩ | ⟨hx, _⟩
    · exact (⟨g, cap, he, hg, ho, hb⟩ : ∃ g cap, e = .returned (.tuple #[.slice (some ⟨g, 0, none⟩) N cap, .bool true]) ∧ w.heap.size ≤ g ∧ Own w' g 36 2 N cap (flq (hqs n rs N)) ∧ Below w.heap.size w w')
    · rw [hk] at hx; cases hx))
  have H := Lib.hid h
  clear h hw hk hn hm ha hNn
  go_enter Tryz.func8, Tryz.ntmps8
  go_wp2_with (first
    | (go_at_call 37; (with_reducible refine ((c1 _ ?_).out).mono ?_); (focus ((exact H.out); done)); rintro e wa ⟨rfl, hb_wa⟩; have hs_wa := hb_wa.size; (try simp at hs_wa))
    | ((go_at_call 38; (with_reducible refine ((c2 _ ?_).out).mono ?_); (focus (exact H.out.below hb_wa; done)); rintro e wb ⟨g, cap, rfl, hg, ho, hb_wb⟩); have HO := Lib.hid (And.intro hg ho); clear hg ho))
  refine bodyPost_ret (v := .tuple #[.slice (some ⟨g, 0, none⟩) N cap, .bool true]) (by simp [results, Tryz.results8, go_sem]) rfl ⟨g, cap, rfl, Nat.le_trans hs_wa HO.out.1, HO.out.2, hb_wa.trans (hb_wb.mono hs_wa)⟩
theorem whole_nat {n : Int} {rs : List Rn} (h : nWhole n rs = true) : ∃ N M : Nat, n = (N : Int) ∧ N = M + 1 := by
  unfold nWhole at h
  simp only [Bool.and_eq_true] at h
  have := (nOk_true h.1).1
  exact ⟨n.toNat, n.toNat - 1, by omega, by omega⟩
theorem adj_false {n : Int} {rs : List Rn} (h : adjOk n rs = false) : nWhole n rs = false ∨ ∃ N M : Nat, n = (N : Int) ∧ N = M + 1 ∧ nWhole n rs = true ∧ okH M rs = false := by
  cases hw : nWhole n rs
  · exact .inl rfl
  · right
    unfold adjOk at h
    rw [hw, Bool.true_and] at h
    obtain ⟨N, M, hN, hM⟩ := whole_nat hw
    exact ⟨N, M, hN, hM, rfl, by rw [hN, hM, Int.toNat_natCast, Nat.add_sub_cancel] at h; exact h⟩
theorem adj_nat {n : Int} {rs : List Rn} (h : adjOk n rs = true) : ∃ N M : Nat, n = (N : Int) ∧ N = M + 1 := by
  unfold adjOk at h
  simp only [Bool.and_eq_true] at h
  exact whole_nat h.1
theorem sHeights_no (n : Int) (p : Option Addr) (c m : Nat) (rs : List Rn) (w : World) (h : Runs w p rs) (hm : rs.length = m) (hl : m ≤ 4000000000000000000) (ha : adjOk n rs = false) :
    Calls Tryz.prog 8 #[.int .i64 n, .slice p m c] w fun e w' => (∃ q, e = .returned (.tuple #[.slice q 0 0, .bool false])) ∧ Below w.heap.size w w' := by
  rcases adj_false ha with hw | ⟨N, M, rfl, hNM, hw, hk⟩
  · have c1 := fun w h => Lib.hid (sWhole_m (p := p) (c := c) w hm h hl hw)
    have H := Lib.hid h
    clear h hw ha
    go_enter Tryz.func8, Tryz.ntmps8
    go_wp2_with ((go_at_call 37; (with_reducible refine ((c1 _ ?_).out).mono ?_); (focus ((exact H.out); done)); rintro e wa ⟨rfl, hb_wa⟩; have hs_wa := hb_wa.size; (try simp at hs_wa)))
    refine bodyPost_ret (v := .tuple #[.slice (some ⟨wa.heap.size, 0, none⟩) 0 0, .bool false]) (by simp [results, Tryz.results8, go_sem]) rfl ⟨⟨_, rfl⟩, (by repeat (first | assumption | exact Below.refl _ _ | (refine below_chain ?_ (by assumption) (by first | omega | (simp <;> omega) | simp)) | (refine Below.alloc ?_ (by first | omega | (simp <;> omega) | simp) _) | (apply below_drewN) | (apply below_drew) | (refine Below.setCell ?_ (by first | omega | (simp <;> omega) | simp) _)))⟩
  · have hn := (whole_iff.1 hw).1
    have c1 := fun w h => Lib.hid (sWhole_m (p := p) (c := c) w hm h hl hw)
    have c2 := fun w h => Lib.hid ((sL23 N M p c m rs w h hw hn hm hNM).mono (by
      rintro e w' ⟨hd, hb⟩
      rcases hd with ⟨hx, _⟩ | ⟨_, q, he⟩
      · rw [hk] at hx; cases hx
      · exact (⟨q, he, hb⟩ : ∃ q, e = .returned (.tuple #[.slice q 0 0, .bool false]) ∧ Below w.heap.size w w')))
    have H := Lib.hid h
    clear h hw hk hn hm ha hNM
    go_enter Tryz.func8, Tryz.ntmps8
    go_wp2_with (first
      | (go_at_call 37; (with_reducible refine ((c1 _ ?_).out).mono ?_); (focus ((exact H.out); done)); rintro e wa ⟨rfl, hb_wa⟩; have hs_wa := hb_wa.size; (try simp at hs_wa))
      | (go_at_call 38; (with_reducible refine ((c2 _ ?_).out).mono ?_); (focus ((exact H.out.below hb_wa); done)); rintro e wb ⟨q, rfl, hb_wb⟩; have hs_wb := hb_wb.size; (try simp at hs_wb)))
    refine bodyPost_ret (v := .tuple #[.slice q 0 0, .bool false]) (by simp [results, Tryz.results8, go_sem]) rfl ⟨⟨_, rfl⟩, (by repeat (first | assumption | exact Below.refl _ _ | (refine below_chain ?_ (by assumption) (by first | omega | (simp <;> omega) | simp)) | (refine Below.alloc ?_ (by first | omega | (simp <;> omega) | simp) _) | (apply below_drewN) | (apply below_drew) | (refine Below.setCell ?_ (by first | omega | (simp <;> omega) | simp) _)))⟩
/-- the adjusted rise and the rest of a run can be told -/
noncomputable def runOk (n k : Int) (rs : List Rn) : Prop := adjOk n rs = true ∧ 0 ≤ k ∧ k < rs.length
theorem quo_own {w : World} {g N cap n i : Nat} {rs : List Rn} (h : Own w g 36 2 N cap (flq (hqs n rs N))) (hi : i < N) : w.cell? ⟨g, i * 2, none⟩ = some (.int .i64 (Quo.T (hT n rs i) (dT n rs))) ∧ w.cell? ⟨g, i * 2 + 1, none⟩ = some (.int .i64 (Quo.L (hT n rs i) (dT n rs))) := by
  have := flq_at (hqs_at (n := n) (rs := rs) hi)
  exact ⟨h.cells this.1, h.cells this.2⟩
theorem frozen_below_kE {w w' : World} {p : Addr} {v : Value} (h : Below w.heap.size w w') (hc : w.cell? p = some v) (hf : w.frozen? p = false) : w'.frozen? p = false := by
  rw [h.frozen (World.block_lt_of_cell? w _ hc)]; exact hf
set_option maxHeartbeats 4000000 in
set_option maxRecDepth 100000 in
theorem sRun_yes (N n k : Nat) (p : Option Addr) (c m : Nat) (rs : List Rn) (r : Rn) (w : World) (h : Runs w p rs) (ha : adjOk (N : Int) rs = true) (hm : rs.length = m) (hNn : N = n + 1) (hr : rs[k]? = some r) :
    Calls Tryz.prog 19 #[.int .i64 N, .slice p m c, .int .i64 k] w fun e w' => e = .returned (.tuple #[.agg #[.int .i64 (vT (hT n rs r.t.toNat - hT n rs r.f.toNat) (dT n rs)), .int .i64 (vL (hT n rs r.t.toNat - hT n rs r.f.toNat) (dT n rs))], .bool (Quo.qO (hT n rs r.t.toNat - hT n rs r.f.toNat) (dT n rs))]) ∧ Below w.heap.size w w' := by
  obtain ⟨hw, hk⟩ := adj_true ha hNn
  have hn := (whole_iff.1 hw).1
  have hl : m ≤ 12 := by rw [← hm]; exact (nOk_true hn).2.2.1
  have hD0 : 0 < dT n rs := dT_pos (by rw [← hNn]; exact hw) (by rw [← hNn]; exact hn)
  have hkm : k < m := by rw [← hm]; exact (List.getElem?_eq_some_iff.1 hr).1
  have hkm' : (k : Int) < (m : Int) := by omega
  have c1 := fun w h => Lib.hid (sHeights_yes N n p c m rs w h ha hm hNn)
  have c2 := fun w => Lib.hid (nIn k 0 (m - 1) true w (by simp; omega))
  obtain ⟨B, o, r', rfl, hr', hB, e1, e2, e3, e4⟩ := h.at (i := k) (by omega)
  obtain rfl : r = r' := by rw [hr] at hr'; cases hr'; rfl
  have hro := rOk_true ((nOk_true hn).2.2.2 k r hr)
  obtain ⟨F, hF⟩ : ∃ F : Nat, r.f = F := ⟨r.f.toNat, by omega⟩
  obtain ⟨T, hT'⟩ : ∃ T : Nat, r.t = T := ⟨r.t.toNat, by omega⟩
  have hFN : F < N := by omega
  have hTN : T < N := by omega
  have hFN' : (F : Int) < (N : Int) := by omega
  have hTN' : (T : Int) < (N : Int) := by omega
  have v1 := Quo.Val.of (N := hT n rs T) (D := dT n rs) (by omega) (okH_true.1 hk T (by omega))
  have v2 := Quo.Val.of (N := hT n rs F) (D := dT n rs) (by omega) (okH_true.1 hk F (by omega))
  have hv := v_of (a := 0) (b := 0) (v1.take v2)
  rw [hF, hT', Int.toNat_natCast, Int.toNat_natCast]
  rw [hF] at e1
  rw [hT'] at e2
  have HQ := fun w g cap (ho : Own w g 36 2 N cap (flq (hqs n rs N))) => And.intro (quo_own ho hTN) (quo_own ho hFN)
  obtain ⟨x1, hx1⟩ : ∃ x, Quo.T (hT n rs T) (dT n rs) = x := ⟨_, rfl⟩
  obtain ⟨y1, hy1⟩ : ∃ x, Quo.L (hT n rs T) (dT n rs) = x := ⟨_, rfl⟩
  obtain ⟨x2, hx2⟩ : ∃ x, Quo.T (hT n rs F) (dT n rs) = x := ⟨_, rfl⟩
  obtain ⟨y2, hy2⟩ : ∃ x, Quo.L (hT n rs F) (dT n rs) = x := ⟨_, rfl⟩
  rw [hx1, hy1, hx2, hy2] at hv
  have HQ := fun w g cap (ho : Own w g 36 2 N cap (flq (hqs n rs N))) => (show (w.cell? ⟨g, T * 2, none⟩ = some (.int .i64 x1) ∧ w.cell? ⟨g, T * 2 + 1, none⟩ = some (.int .i64 y1)) ∧ (w.cell? ⟨g, F * 2, none⟩ = some (.int .i64 x2) ∧ w.cell? ⟨g, F * 2 + 1, none⟩ = some (.int .i64 y2)) from by rw [← hx1, ← hy1, ← hx2, ← hy2]; exact HQ w g cap ho)
  obtain ⟨X, hX⟩ : ∃ X, vT (hT n rs T - hT n rs F) (dT n rs) = X := ⟨_, rfl⟩
  obtain ⟨Y, hY⟩ : ∃ Y, vL (hT n rs T - hT n rs F) (dT n rs) = Y := ⟨_, rfl⟩
  obtain ⟨b, hb⟩ : ∃ b, Quo.qO (hT n rs T - hT n rs F) (dT n rs) = b := ⟨_, rfl⟩
  rw [hX, hY, hb] at hv ⊢
  have c3 := fun w => Lib.hid (by have := sTake_any x1 y1 x2 y2 w; rw [hv.1, hv.2.1, hv.2.2] at this; exact this)
  have H := Lib.hid h
  clear h hw hk hn hm ha hNn hr hr' hro hF hT' v1 v2 hv hx1 hy1 hx2 hy2 hX hY hb hD0 e3 e4
  go_enter Tryz.func19, Tryz.ntmps19
  go_upto_region 4 with (first
    | ((go_at_call 8; (with_reducible refine ((c1 _ ?_).out).mono ?_); (focus ((exact H.out.below (by repeat (first | assumption | exact Below.refl _ _ | (refine below_chain ?_ (by assumption) (by first | omega | (simp <;> omega) | simp)) | (refine Below.alloc ?_ (by first | omega | (simp <;> omega) | simp) _) | (apply below_drewN) | (apply below_drew) | (refine Below.setCell ?_ (by first | omega | (simp <;> omega) | simp) _)))); done)); rintro e wa ⟨g, cap, rfl, hg, ho, hb_wa⟩; have hs_wa := hb_wa.size; (try simp at hs_wa)); have HO := Lib.hid ho; clear ho)
    | (go_at_call 50; (with_reducible refine ((c2 _).out).mono ?_); rintro e w' ⟨rfl, rfl⟩))
  have hBa : Below w.heap.size w wa := (by repeat (first | assumption | exact Below.refl _ _ | (refine below_chain ?_ (by assumption) (by first | omega | (simp <;> omega) | simp)) | (refine Below.alloc ?_ (by first | omega | (simp <;> omega) | simp) _) | (apply below_drewN) | (apply below_drew) | (refine Below.setCell ?_ (by first | omega | (simp <;> omega) | simp) _)))
  have d1 := cell_below_keep hBa e1
  have d2 := cell_below_keep hBa e2
  obtain ⟨⟨k1, k2⟩, k3, k4⟩ := HQ wa g cap HO.out
  have hgl := HO.out.lt
  have hrc : wa.cell? ⟨w.heap.size, 0, none⟩ = some (.int .i64 0) ∧ wa.cell? ⟨w.heap.size, 1, none⟩ = some (.int .i64 0) ∧ wa.frozen? ⟨w.heap.size, 0, none⟩ = false ∧ wa.frozen? ⟨w.heap.size, 1, none⟩ = false := by
    have hb1 := hb_wa
    refine ⟨cell_below_keep hb1 (by simp [go_sem]), cell_below_keep hb1 (by simp [go_sem]), ?_, ?_⟩
    · rw [hb1.frozen (by simp)]; simp [go_sem]
    · rw [hb1.frozen (by simp)]; simp [go_sem]
  have hB1 : ¬ B = w.heap.size := by omega
  have hB2 : ¬ w.heap.size = B := by omega
  have hg' : w.heap.size < g := by simp at hg; omega
  have hg1 : ¬ g = w.heap.size := by omega
  have hg2 : ¬ w.heap.size = g := by omega
  obtain ⟨q1, q2, q3, q4⟩ := hrc
  go_region_held3 (fun W => W.cell? ⟨B, o + k * 4, none⟩ = some (.int .i64 (F : Int)) ∧ W.cell? ⟨B, o + k * 4 + 1, none⟩ = some (.int .i64 (T : Int)) ∧ W.cell? ⟨g, T * 2, none⟩ = some (.int .i64 x1) ∧ W.cell? ⟨g, T * 2 + 1, none⟩ = some (.int .i64 y1) ∧ W.cell? ⟨g, F * 2, none⟩ = some (.int .i64 x2) ∧ W.cell? ⟨g, F * 2 + 1, none⟩ = some (.int .i64 y2)) (first | (go_keep; done) | ((with_reducible refine cell_below_keep (by with_reducible assumption) ?_); with_reducible assumption))
    (first | (go_at_call 51; (with_reducible refine ((c3 _).out).mono ?_); rintro e w2 ⟨rfl, hb_w2⟩; have l1 := cell_below_keep hb_w2 (cell_drew_keep d1); have l2 := cell_below_keep hb_w2 (cell_drew_keep d2); have l3 := cell_below_keep hb_w2 (cell_drew_keep k1); have l4 := cell_below_keep hb_w2 (cell_drew_keep k2); have l5 := cell_below_keep hb_w2 (cell_drew_keep k3); have l6 := cell_below_keep hb_w2 (cell_drew_keep k4); have r1 := cell_below_keep hb_w2 (cell_drew_keep q1); have r2 := cell_below_keep hb_w2 (cell_drew_keep q2); have r3 := frozen_below_kE hb_w2 (cell_drew_keep q1) q3; have r4 := frozen_below_kE hb_w2 (cell_drew_keep q2) q4))
  have hB9 : Below w.heap.size w w2 := hBa.trans (((below_drew (Below.refl _ _)).trans hb_w2).mono hBa.size)
  go_wp2_with fail
  refine bodyPost_ret (v := .tuple #[.agg #[.int .i64 X, .int .i64 Y], .bool b]) (by simp [results, Tryz.results19, go_sem, r1, r2]) rfl ⟨rfl, (hB9.setCell (Nat.le_refl _) _).setCell (Nat.le_refl _) _⟩
theorem res_cell {w wa : World} (h : Below (w.alloc (.cells #[.int .i64 0, .int .i64 0] 36)).heap.size (w.alloc (.cells #[.int .i64 0, .int .i64 0] 36)) wa) : wa.cell? ⟨w.heap.size, 0, none⟩ = some (.int .i64 0) ∧ wa.cell? ⟨w.heap.size, 1, none⟩ = some (.int .i64 0) ∧ wa.frozen? ⟨w.heap.size, 0, none⟩ = false ∧ wa.frozen? ⟨w.heap.size, 1, none⟩ = false := by
  refine ⟨cell_below_keep h (by simp [go_sem]), cell_below_keep h (by simp [go_sem]), ?_, ?_⟩
  · rw [h.frozen (by simp)]; simp [go_sem]
  · rw [h.frozen (by simp)]; simp [go_sem]
set_option maxHeartbeats 2000000 in
theorem sRun_no (n k : Int) (p : Option Addr) (c m : Nat) (rs : List Rn) (w : World) (h : Runs w p rs) (hm : rs.length = m) (hl : m ≤ 4000000000000000000) (hno : ¬ (adjOk n rs = true ∧ 0 ≤ k ∧ k < m)) :
    Calls Tryz.prog 19 #[.int .i64 n, .slice p m c, .int .i64 k] w fun e w' => e = .returned (.tuple #[.agg #[.int .i64 0, .int .i64 0], .bool false]) ∧ Below w.heap.size w w' := by
  have H := Lib.hid h
  cases ha : adjOk n rs
  · have c1 := fun w h => Lib.hid (sHeights_no n p c m rs w h hm hl ha)
    clear h hm hno ha
    go_enter Tryz.func19, Tryz.ntmps19
    go_upto_region 3 with ((go_at_call 8; (with_reducible refine ((c1 _ ?_).out).mono ?_); (focus ((exact H.out.below (by repeat (first | assumption | exact Below.refl _ _ | (refine below_chain ?_ (by assumption) (by first | omega | (simp <;> omega) | simp)) | (refine Below.alloc ?_ (by first | omega | (simp <;> omega) | simp) _) | (apply below_drewN) | (apply below_drew) | (refine Below.setCell ?_ (by first | omega | (simp <;> omega) | simp) _)))); done)); rintro e wa ⟨⟨q, rfl⟩, hb_wa⟩; have hs_wa := hb_wa.size; (try simp at hs_wa)))
    obtain ⟨q1, q2, q3, q4⟩ := res_cell hb_wa
    have hBa : Below w.heap.size w wa := (by repeat (first | assumption | exact Below.refl _ _ | (refine below_chain ?_ (by assumption) (by first | omega | (simp <;> omega) | simp)) | (refine Below.alloc ?_ (by first | omega | (simp <;> omega) | simp) _) | (apply below_drewN) | (apply below_drew) | (refine Below.setCell ?_ (by first | omega | (simp <;> omega) | simp) _)))
    go_wp2_with fail
    refine bodyPost_ret (v := .tuple #[.agg #[.int .i64 0, .int .i64 0], .bool false]) (by simp [results, Tryz.results19, go_sem, q1, q2]) rfl ⟨rfl, (hBa.setCell (Nat.le_refl _) _).setCell (Nat.le_refl _) _⟩
  · obtain ⟨N, M, rfl, hNM⟩ := adj_nat ha
    have hn := (whole_iff.1 (adj_true ha hNM).1).1
    have hl12 : m ≤ 12 := by rw [← hm]; exact (nOk_true hn).2.2.1
    have c1 := fun w h => Lib.hid (sHeights_yes N M p c m rs w h ha hm hNM)
    have c2 := fun w => Lib.hid (nIn k 0 (m - 1) false w (decide_eq_false (fun hc => hno ⟨ha, by omega, by omega⟩)))
    clear h hm hno ha hNM hn
    go_enter Tryz.func19, Tryz.ntmps19
    go_upto_region 3 with (first
      | ((go_at_call 8; (with_reducible refine ((c1 _ ?_).out).mono ?_); (focus ((exact H.out.below (by repeat (first | assumption | exact Below.refl _ _ | (refine below_chain ?_ (by assumption) (by first | omega | (simp <;> omega) | simp)) | (refine Below.alloc ?_ (by first | omega | (simp <;> omega) | simp) _) | (apply below_drewN) | (apply below_drew) | (refine Below.setCell ?_ (by first | omega | (simp <;> omega) | simp) _)))); done)); rintro e wa ⟨g, cap, rfl, hg, ho, hb_wa⟩; have hs_wa := hb_wa.size; (try simp at hs_wa)); have HO := Lib.hid ho; clear ho)
      | (go_at_call 50; (with_reducible refine ((c2 _).out).mono ?_); rintro e w' ⟨rfl, rfl⟩))
    obtain ⟨q1, q2, q3, q4⟩ := res_cell hb_wa
    have hBa : Below w.heap.size w wa := (by repeat (first | assumption | exact Below.refl _ _ | (refine below_chain ?_ (by assumption) (by first | omega | (simp <;> omega) | simp)) | (refine Below.alloc ?_ (by first | omega | (simp <;> omega) | simp) _) | (apply below_drewN) | (apply below_drew) | (refine Below.setCell ?_ (by first | omega | (simp <;> omega) | simp) _)))
    go_wp2_with fail
    refine bodyPost_ret (v := .tuple #[.agg #[.int .i64 0, .int .i64 0], .bool false]) (by simp [results, Tryz.results19, go_sem, q1, q2]) rfl ⟨rfl, (hBa.setCell (Nat.le_refl _) _).setCell (Nat.le_refl _) _⟩
/-- what AdjustRest answers -/
def rsT (n : Nat) (rs : List Rn) (r : Rn) : Int := if Quo.qO (hT n rs r.t.toNat - hT n rs r.f.toNat) (dT n rs) = true then vT (rest n rs r) (dT n rs) else 0
def rsL (n : Nat) (rs : List Rn) (r : Rn) : Int := if Quo.qO (hT n rs r.t.toNat - hT n rs r.f.toNat) (dT n rs) = true then vL (rest n rs r) (dT n rs) else 0
def rsB (n : Nat) (rs : List Rn) (r : Rn) : Bool := Quo.qO (hT n rs r.t.toNat - hT n rs r.f.toNat) (dT n rs) && Quo.qO (rest n rs r) (dT n rs)
set_option maxHeartbeats 4000000 in
set_option maxRecDepth 100000 in
theorem sRest_yes (N n k : Nat) (p : Option Addr) (c m : Nat) (rs : List Rn) (r : Rn) (w : World) (h : Runs w p rs) (ha : adjOk (N : Int) rs = true) (hm : rs.length = m) (hNn : N = n + 1) (hr : rs[k]? = some r) :
    Calls Tryz.prog 100 #[.int .i64 N, .slice p m c, .int .i64 k] w fun e w' => e = .returned (.tuple #[.agg #[.int .i64 (rsT n rs r), .int .i64 (rsL n rs r)], .bool (rsB n rs r)]) ∧ Below w.heap.size w w' := by
  obtain ⟨hw, hk⟩ := adj_true ha hNn
  have hn := (whole_iff.1 hw).1
  have hl : m ≤ 12 := by rw [← hm]; exact (nOk_true hn).2.2.1
  have hD0 : 0 < dT n rs := dT_pos (by rw [← hNn]; exact hw) (by rw [← hNn]; exact hn)
  have hkm : k < m := by rw [← hm]; exact (List.getElem?_eq_some_iff.1 hr).1
  have hkm' : (k : Int) < (m : Int) := by omega
  have c1 := fun w h => Lib.hid (sRun_yes N n k p c m rs r w h ha hm hNn hr)
  obtain ⟨B, o, r', rfl, hr', hB, e1, e2, e3, e4⟩ := h.at (i := k) (by omega)
  obtain rfl : r = r' := by rw [hr] at hr'; cases hr'; rfl
  have hro := rOk_true ((nOk_true hn).2.2.2 k r hr)
  have H := Lib.hid h
  cases hq : Quo.qO (hT n rs r.t.toNat - hT n rs r.f.toNat) (dT n rs)
  · have hT0 : vT (hT n rs r.t.toNat - hT n rs r.f.toNat) (dT n rs) = 0 := by unfold vT; rw [hq]; rfl
    have hL0 : vL (hT n rs r.t.toNat - hT n rs r.f.toNat) (dT n rs) = 0 := by unfold vL; rw [hq]; rfl
    have h1 : rsT n rs r = 0 := by unfold rsT; rw [hq]; rfl
    have h2 : rsL n rs r = 0 := by unfold rsL; rw [hq]; rfl
    have h3 : rsB n rs r = false := by unfold rsB; rw [hq]; rfl
    rw [h1, h2, h3]
    rw [hq, hT0, hL0] at c1
    clear h hw hk hn hm ha hNn hr hr' hro hq hT0 hL0 h1 h2 h3 hD0 e1 e2 e3 e4
    go_enter Tryz.func100, Tryz.ntmps100
    go_upto_region 3 with ((go_at_call 19; (with_reducible refine ((c1 _ ?_).out).mono ?_); (focus ((exact H.out.below (by repeat (first | assumption | exact Below.refl _ _ | (refine below_chain ?_ (by assumption) (by first | omega | (simp <;> omega) | simp)) | (refine Below.alloc ?_ (by first | omega | (simp <;> omega) | simp) _) | (apply below_drewN) | (apply below_drew) | (refine Below.setCell ?_ (by first | omega | (simp <;> omega) | simp) _)))); done)); rintro e wa ⟨rfl, hb_wa⟩; have hs_wa := hb_wa.size; (try simp at hs_wa)))
    obtain ⟨q1, q2, q3, q4⟩ := res_cell hb_wa
    have hBa : Below w.heap.size w wa := (by repeat (first | assumption | exact Below.refl _ _ | (refine below_chain ?_ (by assumption) (by first | omega | (simp <;> omega) | simp)) | (refine Below.alloc ?_ (by first | omega | (simp <;> omega) | simp) _) | (apply below_drewN) | (apply below_drew) | (refine Below.setCell ?_ (by first | omega | (simp <;> omega) | simp) _)))
    have hsa : w.heap.size < wa.heap.size := World.block_lt_of_cell? wa _ q1
    go_wp2_with fail
    have hB9 : Below w.heap.size w (((wa.setCell ⟨w.heap.size, 0, none⟩ (.int .i64 0)).setCell ⟨w.heap.size, 1, none⟩ (.int .i64 0)).alloc (.cells #[.int .i64 0, .int .i64 0] 36)) := ((hBa.setCell (Nat.le_refl _) _).setCell (Nat.le_refl _) _).alloc (by simp; omega) _
    have z1 : (((wa.setCell ⟨w.heap.size, 0, none⟩ (.int .i64 0)).setCell ⟨w.heap.size, 1, none⟩ (.int .i64 0)).alloc (.cells #[.int .i64 0, .int .i64 0] 36)).cell? ⟨w.heap.size, 0, none⟩ = some (.int .i64 0) := cell_below_keep ((Below.refl _ _).alloc (Nat.le_refl _) _) (by simp [go_sem, q1])
    have z2 : (((wa.setCell ⟨w.heap.size, 0, none⟩ (.int .i64 0)).setCell ⟨w.heap.size, 1, none⟩ (.int .i64 0)).alloc (.cells #[.int .i64 0, .int .i64 0] 36)).cell? ⟨w.heap.size, 1, none⟩ = some (.int .i64 0) := cell_below_keep ((Below.refl _ _).alloc (Nat.le_refl _) _) (by simp [go_sem, q2])
    obtain ⟨W, hW⟩ : ∃ W, W = ((wa.setCell ⟨w.heap.size, 0, none⟩ (.int .i64 0)).setCell ⟨w.heap.size, 1, none⟩ (.int .i64 0)).alloc (.cells #[.int .i64 0, .int .i64 0] 36) := ⟨_, rfl⟩
    rw [← hW] at hB9 z1 z2 ⊢
    refine bodyPost_ret (v := .tuple #[.agg #[.int .i64 0, .int .i64 0], .bool false]) (by simp [results, Tryz.results100, go_sem, z1, z2]) rfl ⟨rfl, hB9⟩
  · have v1 := Quo.Val.of (N := hT n rs r.t.toNat - hT n rs r.f.toNat) (D := dT n rs) (by omega) hq
    have v2 := Quo.Val.whole (x := r.s) (D := dT n rs) (by omega) (by omega) (by omega)
    have hre : hT n rs r.t.toNat - hT n rs r.f.toNat - r.s * dT n rs = rest n rs r := by unfold rest; rw [Int.mul_comm]
    have hv := v_of (a := 0) (b := 0) (v1.take v2)
    rw [hre] at hv
    have hT0 : vT (hT n rs r.t.toNat - hT n rs r.f.toNat) (dT n rs) = Quo.T (hT n rs r.t.toNat - hT n rs r.f.toNat) (dT n rs) := by unfold vT; rw [if_pos hq]
    have hL0 : vL (hT n rs r.t.toNat - hT n rs r.f.toNat) (dT n rs) = Quo.L (hT n rs r.t.toNat - hT n rs r.f.toNat) (dT n rs) := by unfold vL; rw [if_pos hq]
    have h1 : rsT n rs r = vT (rest n rs r) (dT n rs) := by unfold rsT; rw [if_pos hq]
    have h2 : rsL n rs r = vL (rest n rs r) (dT n rs) := by unfold rsL; rw [if_pos hq]
    have h3 : rsB n rs r = Quo.qO (rest n rs r) (dT n rs) := by unfold rsB; rw [hq]; rfl
    rw [h1, h2, h3]
    rw [hq, hT0, hL0] at c1
    obtain ⟨x1, hx1⟩ : ∃ x, Quo.T (hT n rs r.t.toNat - hT n rs r.f.toNat) (dT n rs) = x := ⟨_, rfl⟩
    obtain ⟨y1, hy1⟩ : ∃ x, Quo.L (hT n rs r.t.toNat - hT n rs r.f.toNat) (dT n rs) = x := ⟨_, rfl⟩
    rw [hx1, hy1] at hv c1
    obtain ⟨X, hX⟩ : ∃ X, vT (rest n rs r) (dT n rs) = X := ⟨_, rfl⟩
    obtain ⟨Y, hY⟩ : ∃ Y, vL (rest n rs r) (dT n rs) = Y := ⟨_, rfl⟩
    obtain ⟨b, hb⟩ : ∃ b, Quo.qO (rest n rs r) (dT n rs) = b := ⟨_, rfl⟩
    rw [hX, hY, hb] at hv ⊢
    have c3 := fun w => Lib.hid (by have := sTake_any x1 y1 r.s 1 w; rw [hv.1, hv.2.1, hv.2.2] at this; exact this)
    clear h hw hk hn hm ha hNn hr hr' hro hq hT0 hL0 h1 h2 h3 hD0 e1 e2 e4 v1 v2 hre hv hx1 hy1 hX hY hb
    go_enter Tryz.func100, Tryz.ntmps100
    go_upto_region 4 with ((go_at_call 19; (with_reducible refine ((c1 _ ?_).out).mono ?_); (focus ((exact H.out.below (by repeat (first | assumption | exact Below.refl _ _ | (refine below_chain ?_ (by assumption) (by first | omega | (simp <;> omega) | simp)) | (refine Below.alloc ?_ (by first | omega | (simp <;> omega) | simp) _) | (apply below_drewN) | (apply below_drew) | (refine Below.setCell ?_ (by first | omega | (simp <;> omega) | simp) _)))); done)); rintro e wa ⟨rfl, hb_wa⟩; have hs_wa := hb_wa.size; (try simp at hs_wa)))
    obtain ⟨q1, q2, q3, q4⟩ := res_cell hb_wa
    have hBa : Below w.heap.size w wa := (by repeat (first | assumption | exact Below.refl _ _ | (refine below_chain ?_ (by assumption) (by first | omega | (simp <;> omega) | simp)) | (refine Below.alloc ?_ (by first | omega | (simp <;> omega) | simp) _) | (apply below_drewN) | (apply below_drew) | (refine Below.setCell ?_ (by first | omega | (simp <;> omega) | simp) _)))
    have hsa : w.heap.size < wa.heap.size := World.block_lt_of_cell? wa _ q1
    have d3 := cell_below_keep hBa e3
    have hal : Below wa.heap.size wa (wa.alloc (.cells #[.int .i64 x1, .int .i64 y1] 36)) := (Below.refl _ _).alloc (Nat.le_refl _) _
    have m1 := cell_below_keep hal q1
    have m2 := cell_below_keep hal q2
    have m3 := frozen_below_kE hal q1 q3
    have m4 := frozen_below_kE hal q2 q4
    have m5 := cell_below_keep hal d3
    have m6 : (wa.alloc (.cells #[.int .i64 x1, .int .i64 y1] 36)).cell? ⟨wa.heap.size, 0, none⟩ = some (.int .i64 x1) := by simp [go_sem]
    have m7 : (wa.alloc (.cells #[.int .i64 x1, .int .i64 y1] 36)).cell? ⟨wa.heap.size, 1, none⟩ = some (.int .i64 y1) := by simp [go_sem]
    have hBV := hBa.trans (hal.mono hBa.size)
    obtain ⟨V, hV⟩ : ∃ V, V = wa.alloc (.cells #[.int .i64 x1, .int .i64 y1] 36) := ⟨_, rfl⟩
    obtain ⟨R, hR⟩ : ∃ R, R = wa.heap.size := ⟨_, rfl⟩
    rw [← hV] at m1 m2 m3 m4 m5 m6 m7 hBV ⊢
    rw [← hR] at m6 m7 hsa ⊢
    have hRw : ¬ R = w.heap.size := by omega
    have hwR : ¬ w.heap.size = R := by omega
    have hB1 : ¬ B = w.heap.size := by omega
    have hB2 : ¬ w.heap.size = B := by omega
    clear hal hV hR q1 q2 q3 q4 d3 hb_wa c1
    go_region_held3 (fun W => W.cell? ⟨R, 0, none⟩ = some (.int .i64 x1) ∧ W.cell? ⟨R, 1, none⟩ = some (.int .i64 y1) ∧ W.cell? ⟨B, o + k * 4 + 2, none⟩ = some (.int .i64 r.s)) (first | (go_keep; done) | ((with_reducible refine cell_below_keep (by with_reducible assumption) ?_); with_reducible assumption))
      (first | (go_at_call 51; (with_reducible refine ((c3 _).out).mono ?_); rintro e w2 ⟨rfl, hb_w2⟩; have l1 := cell_below_keep hb_w2 (cell_drew_keep m6); have l2 := cell_below_keep hb_w2 (cell_drew_keep m7); have l3 := cell_below_keep hb_w2 (cell_drew_keep m5); have r1 := cell_below_keep hb_w2 (cell_drew_keep m1); have r2 := cell_below_keep hb_w2 (cell_drew_keep m2); have r3 := frozen_below_kE hb_w2 (cell_drew_keep m1) m3; have r4 := frozen_below_kE hb_w2 (cell_drew_keep m2) m4))
    have hB9 : Below w.heap.size w w2 := hBV.trans (((below_drew (Below.refl _ _)).trans hb_w2).mono hBV.size)
    go_wp2_with fail
    refine bodyPost_ret (v := .tuple #[.agg #[.int .i64 X, .int .i64 Y], .bool b]) (by simp [results, Tryz.results100, go_sem, r1, r2]) rfl ⟨rfl, (hB9.setCell (Nat.le_refl _) _).setCell (Nat.le_refl _) _⟩
theorem sRest_no (n k : Int) (p : Option Addr) (c m : Nat) (rs : List Rn) (w : World) (h : Runs w p rs) (hm : rs.length = m) (hl : m ≤ 4000000000000000000) (hno : ¬ (adjOk n rs = true ∧ 0 ≤ k ∧ k < m)) :
    Calls Tryz.prog 100 #[.int .i64 n, .slice p m c, .int .i64 k] w fun e w' => e = .returned (.tuple #[.agg #[.int .i64 0, .int .i64 0], .bool false]) ∧ Below w.heap.size w w' := by
  have H := Lib.hid h
  have c1 := fun w h => Lib.hid (sRun_no n k p c m rs w h hm hl hno)
  clear h hm hno
  go_enter Tryz.func100, Tryz.ntmps100
  go_upto_region 3 with ((go_at_call 19; (with_reducible refine ((c1 _ ?_).out).mono ?_); (focus ((exact H.out.below (by repeat (first | assumption | exact Below.refl _ _ | (refine below_chain ?_ (by assumption) (by first | omega | (simp <;> omega) | simp)) | (refine Below.alloc ?_ (by first | omega | (simp <;> omega) | simp) _) | (apply below_drewN) | (apply below_drew) | (refine Below.setCell ?_ (by first | omega | (simp <;> omega) | simp) _)))); done)); rintro e wa ⟨rfl, hb_wa⟩; have hs_wa := hb_wa.size; (try simp at hs_wa)))
  obtain ⟨q1, q2, q3, q4⟩ := res_cell hb_wa
  have hBa : Below w.heap.size w wa := (by repeat (first | assumption | exact Below.refl _ _ | (refine below_chain ?_ (by assumption) (by first | omega | (simp <;> omega) | simp)) | (refine Below.alloc ?_ (by first | omega | (simp <;> omega) | simp) _) | (apply below_drewN) | (apply below_drew) | (refine Below.setCell ?_ (by first | omega | (simp <;> omega) | simp) _)))
  have hsa : w.heap.size < wa.heap.size := World.block_lt_of_cell? wa _ q1
  go_wp2_with fail
  have hB9 : Below w.heap.size w (((wa.setCell ⟨w.heap.size, 0, none⟩ (.int .i64 0)).setCell ⟨w.heap.size, 1, none⟩ (.int .i64 0)).alloc (.cells #[.int .i64 0, .int .i64 0] 36)) := ((hBa.setCell (Nat.le_refl _) _).setCell (Nat.le_refl _) _).alloc (by simp; omega) _
  have z1 : (((wa.setCell ⟨w.heap.size, 0, none⟩ (.int .i64 0)).setCell ⟨w.heap.size, 1, none⟩ (.int .i64 0)).alloc (.cells #[.int .i64 0, .int .i64 0] 36)).cell? ⟨w.heap.size, 0, none⟩ = some (.int .i64 0) := cell_below_keep ((Below.refl _ _).alloc (Nat.le_refl _) _) (by simp [go_sem, q1])
  have z2 : (((wa.setCell ⟨w.heap.size, 0, none⟩ (.int .i64 0)).setCell ⟨w.heap.size, 1, none⟩ (.int .i64 0)).alloc (.cells #[.int .i64 0, .int .i64 0] 36)).cell? ⟨w.heap.size, 1, none⟩ = some (.int .i64 0) := cell_below_keep ((Below.refl _ _).alloc (Nat.le_refl _) _) (by simp [go_sem, q2])
  obtain ⟨W, hW⟩ : ∃ W, W = ((wa.setCell ⟨w.heap.size, 0, none⟩ (.int .i64 0)).setCell ⟨w.heap.size, 1, none⟩ (.int .i64 0)).alloc (.cells #[.int .i64 0, .int .i64 0] 36) := ⟨_, rfl⟩
  rw [← hW] at hB9 z1 z2 ⊢
  refine bodyPost_ret (v := .tuple #[.agg #[.int .i64 0, .int .i64 0], .bool false]) (by simp [results, Tryz.results100, go_sem, z1, z2]) rfl ⟨rfl, hB9⟩
end Go.Proofs.YtoaomjchaihkaaaGreatDoor
namespace Go.Proofs.YtoaomjchaihkaaaGreatDoor
open Go.RowKit
set_option linter.unusedVariables false

/-- a summand: the weight times the square of what heights leave of a rise -/
def tryW (hs : List Int) (r : Rn) : Int := r.g * (htAt hs r.t - htAt hs r.f - r.s) * (htAt hs r.t - htAt hs r.f - r.s)
def tryV (hs : List Int) (rs : List Rn) : Int := lsm rs (tryW hs)
theorem htOk_low {n : Int} {hs : List Int} (h : htOk n hs = true) (x : Int) : -1000000 ≤ htAt hs x ∧ htAt hs x ≤ 1000000 := by
  unfold htAt
  cases e : hs[x.toNat]? with
  | none => simp
  | some z => exact (htOk_true h).2 _ _ e
theorem tryW_low {n N : Int} {hs : List Int} {rs : List Rn} {r : Rn} (h : htOk n hs = true) (hn : nOk N rs = true) (hr : r ∈ rs) : -40000000000000 ≤ tryW hs r ∧ tryW hs r ≤ 40000000000000 := by
  obtain ⟨a1, a2, a3, a4, a5⟩ := ok_runs hn r hr
  have b1 := htOk_low h r.t
  have b2 := htOk_low h r.f
  obtain ⟨d, hd⟩ : ∃ d, htAt hs r.t - htAt hs r.f - r.s = d := ⟨_, rfl⟩
  have c1 := abs_mul (a := r.g) (b := d) (x := 9) (y := 2100000) (by omega) (by omega)
  have c2 := abs_mul (a := r.g * d) (b := d) (x := 9 * 2100000) (y := 2100000) c1 (by omega)
  unfold tryW
  rw [hd]; omega
theorem htOk_false {n : Int} {hs : List Int} (h : htOk n hs = false) (hl : (hs.length : Int) = n) : ∃ (i : Nat) (z : Int), hs[i]? = some z ∧ ¬ (-1000000 ≤ z ∧ z ≤ 1000000) := by
  unfold htOk at h
  rw [hl] at h
  simp only [decide_true, Bool.true_and] at h
  have h1 := List.all_eq_false.1 h
  obtain ⟨z, hz, hb⟩ := h1
  obtain ⟨i, hi⟩ := List.getElem?_of_mem hz
  refine ⟨i, z, hi, fun hc => hb ?_⟩
  unfold hOk; exact decide_eq_true hc
end Go.Proofs.YtoaomjchaihkaaaGreatDoor
namespace Go.Proofs.YtoaomjchaihkaaaGreatDoor
open Go.RowKit
set_option linter.unusedVariables false

/-- a weighted square of a quotient -/
def sqA (t l : Int) : Int := Quo.gT (Quo.both t l t l) (t * t) (l * l)
def sqB (t l : Int) : Int := Quo.gL (Quo.both t l t l) (t * t) (l * l)
def sqO (t l : Int) : Bool := Quo.gOk (Quo.both t l t l) (t * t) (l * l)
def sqT (t l g : Int) : Int := if sqO t l = true then Quo.gT (Quo.both (sqA t l) (sqB t l) g 1) (sqA t l * g) (sqB t l * 1) else 0
def sqL (t l g : Int) : Int := if sqO t l = true then Quo.gL (Quo.both (sqA t l) (sqB t l) g 1) (sqA t l * g) (sqB t l * 1) else 0
def sqK (t l g : Int) : Bool := if sqO t l = true then Quo.gOk (Quo.both (sqA t l) (sqB t l) g 1) (sqA t l * g) (sqB t l * 1) else false
/-- two numbers in a block of their own -/
def Cell2 (W : World) (R : Nat) (x y : Int) : Prop := W.cell? ⟨R, 0, none⟩ = some (.int .i64 x) ∧ W.cell? ⟨R, 1, none⟩ = some (.int .i64 y) ∧ W.frozen? ⟨R, 0, none⟩ = false ∧ W.frozen? ⟨R, 1, none⟩ = false
theorem Cell2.below {W W' : World} {R : Nat} {x y : Int} (h : Cell2 W R x y) (hb : Below W.heap.size W W') : Cell2 W' R x y :=
  ⟨cell_below_keep hb h.1, cell_below_keep hb h.2.1, frozen_below_kE hb h.1 h.2.2.1, frozen_below_kE hb h.2.1 h.2.2.2⟩
theorem Cell2.new (W : World) (x y : Int) (T : TypeId) : Cell2 (W.alloc (.cells #[.int .i64 x, .int .i64 y] T)) W.heap.size x y := by
  refine ⟨?_, ?_, ?_, ?_⟩ <;> simp [go_sem]
theorem Cell2.lt {W : World} {R : Nat} {x y : Int} (h : Cell2 W R x y) : R < W.heap.size := World.block_lt_of_cell? W _ h.1
theorem Cell2.drew {W : World} {R : Nat} {x y : Int} (h : Cell2 W R x y) : Cell2 W.drew R x y := h
theorem Cell2.set {W : World} {R : Nat} {x y : Int} (h : Cell2 W R x y) (x' y' : Int) : Cell2 ((W.setCell ⟨R, 0, none⟩ (.int .i64 x')).setCell ⟨R, 1, none⟩ (.int .i64 y')) R x' y' := by
  obtain ⟨h1, h2, h3, h4⟩ := h
  refine ⟨?_, ?_, ?_, ?_⟩ <;> simp [go_sem, h1, h2, h3, h4]
theorem Cell2.other {W : World} {R S : Nat} {x y : Int} (h : Cell2 W R x y) (hne : R ≠ S) (i : Nat) (v : Value) : Cell2 (W.setCell ⟨S, i, none⟩ v) R x y := by
  have hb : (W.setCell ⟨S, i, none⟩ v).heap[R]? = W.heap[R]? := Deep.blk_setCell_other _ _ _ _ hne
  obtain ⟨h1, h2, h3, h4⟩ := h
  exact ⟨(World.cell?_of_block (a := ⟨R, 0, none⟩) hb).trans h1, (World.cell?_of_block (a := ⟨R, 1, none⟩) hb).trans h2, (World.frozen?_of_block (a := ⟨R, 0, none⟩) hb).trans h3, (World.frozen?_of_block (a := ⟨R, 1, none⟩) hb).trans h4⟩
theorem gen_exitE {Q : Exit → Act → World → Prop} {x : Exit} {a : Act} {W : World} (p : World → Prop) (h : p W) (k : ∀ W', p W' → Q x a W') : Q x a W := k W h
/-- one run more in the sum -/
def stO (fA fB : Rn → Int) (fP : Rn → Bool) (s : Int × Int) (r : Rn) : Bool := fP r && sqK (fA r) (fB r) r.g && Quo.gOk (Quo.both s.1 s.2 (sqT (fA r) (fB r) r.g) (sqL (fA r) (fB r) r.g)) (s.1 * sqL (fA r) (fB r) r.g + sqT (fA r) (fB r) r.g * s.2) (s.2 * sqL (fA r) (fB r) r.g)
def stV (fA fB : Rn → Int) (s : Int × Int) (r : Rn) : Int × Int := (Quo.gT (Quo.both s.1 s.2 (sqT (fA r) (fB r) r.g) (sqL (fA r) (fB r) r.g)) (s.1 * sqL (fA r) (fB r) r.g + sqT (fA r) (fB r) r.g * s.2) (s.2 * sqL (fA r) (fB r) r.g), Quo.gL (Quo.both s.1 s.2 (sqT (fA r) (fB r) r.g) (sqL (fA r) (fB r) r.g)) (s.1 * sqL (fA r) (fB r) r.g + sqT (fA r) (fB r) r.g * s.2) (s.2 * sqL (fA r) (fB r) r.g))
def sumS (fA fB : Rn → Int) (fP : Rn → Bool) : List Rn → Int × Int → Option (Int × Int)
  | [], s => some s
  | r :: l, s => if stO fA fB fP s r = true then sumS fA fB fP l (stV fA fB s r) else none
/-- what AdjustSum answers -/
def smV (n : Nat) (rs : List Rn) : Option (Int × Int) := sumS (rsT n rs) (rsL n rs) (rsB n rs) rs (0, 1)
def sumA (o : Option (Int × Int)) : Value := match o with
  | some s => .tuple #[.agg #[.int .i64 s.1, .int .i64 s.2], .bool true]
  | none => .tuple #[.agg #[.int .i64 0, .int .i64 0], .bool false]
theorem sum_step {fA fB : Rn → Int} {fP : Rn → Bool} {rs : List Rn} {k : Nat} {r : Rn} {s : Int × Int} (hr : rs[k]? = some r) : sumS fA fB fP (rs.drop k) s = if stO fA fB fP s r = true then sumS fA fB fP (rs.drop (k + 1)) (stV fA fB s r) else none := by
  have h : rs.drop k = r :: rs.drop (k + 1) := by
    rw [← (List.getElem?_eq_some_iff.1 hr).2, List.getElem_cons_drop]
  rw [h]; rfl
theorem whole_runs {N : Nat} {rs : List Rn} (hw : nWhole (N : Int) rs = true) : rs ≠ [] := by
  intro e
  subst e
  have hn := (whole_iff.1 hw).1
  have h2 := (nOk_true hn).1
  have h1 := (whole_spn hn).1 hw
  exact h1 (fun x => x = 1) (fun r hr => by simp at hr) (fun s _ hs => by
    have : s = 0 := by simpa [S0] using hs
    omega) 1 (by omega) rfl
end Go.Proofs.YtoaomjchaihkaaaGreatDoor
