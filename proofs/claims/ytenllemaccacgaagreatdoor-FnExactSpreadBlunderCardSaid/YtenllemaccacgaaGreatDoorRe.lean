/-
  The program's spreads: of two nodes, of a run, and what is free of a run.
-/
import Derived.Test.YtenllemaccacgaaGreatDoorZl
import Derived.Test.YtenllemaccacgaaGreatDoorRc
namespace Go.Proofs.YtenllemaccacgaaGreatDoor
open Go.RowKit
set_option linter.unusedVariables false

/-- two numbers in a row -/
theorem ints_two {w : World} {B : Nat} {x y : Int} (h1 : w.cell? ⟨B, 0, none⟩ = some (.int .i64 x)) (h2 : w.cell? ⟨B, 1, none⟩ = some (.int .i64 y)) : Ints w (some ⟨B, 0, none⟩) [x, y] := by
  refine .inr ⟨B, 0, rfl, World.block_lt_of_cell? w _ h1, fun i z hz => ?_⟩
  match i, hz with
  | 0, hz => simp at hz; subst hz; simpa using h1
  | 1, hz => simp at hz; subst hz; simpa using h2
  | i + 2, hz => simp at hz
/-- five values in a block of their own -/
def Cell5 (W : World) (R : Nat) (a b c d e : Value) : Prop := (W.cell? ⟨R, 0, none⟩ = some a ∧ W.cell? ⟨R, 1, none⟩ = some b ∧ W.cell? ⟨R, 2, none⟩ = some c ∧ W.cell? ⟨R, 3, none⟩ = some d ∧ W.cell? ⟨R, 4, none⟩ = some e) ∧ W.frozen? ⟨R, 0, none⟩ = false ∧ W.frozen? ⟨R, 1, none⟩ = false ∧ W.frozen? ⟨R, 2, none⟩ = false ∧ W.frozen? ⟨R, 3, none⟩ = false ∧ W.frozen? ⟨R, 4, none⟩ = false
theorem Cell5.below {W W' : World} {R : Nat} {a b c d e : Value} (h : Cell5 W R a b c d e) (hb : Below W.heap.size W W') : Cell5 W' R a b c d e := by
  obtain ⟨⟨h1, h2, h3, h4, h5⟩, f1, f2, f3, f4, f5⟩ := h
  exact ⟨⟨cell_below_keep hb h1, cell_below_keep hb h2, cell_below_keep hb h3, cell_below_keep hb h4, cell_below_keep hb h5⟩, frozen_below_kE hb h1 f1, frozen_below_kE hb h2 f2, frozen_below_kE hb h3 f3, frozen_below_kE hb h4 f4, frozen_below_kE hb h5 f5⟩
theorem Cell5.new (W : World) (a b c d e : Value) (T : TypeId) : Cell5 (W.alloc (.cells #[a, b, c, d, e] T)) W.heap.size a b c d e := by
  refine ⟨⟨?_, ?_, ?_, ?_, ?_⟩, ?_, ?_, ?_, ?_, ?_⟩ <;> simp [go_sem]
theorem Cell5.lt {W : World} {R : Nat} {a b c d e : Value} (h : Cell5 W R a b c d e) : R < W.heap.size := World.block_lt_of_cell? W _ h.1.1
set_option maxHeartbeats 4000000 in
set_option maxRecDepth 100000 in
theorem iSpreads_yes (N K : Nat) (p : Option Addr) (c m : Nat) (rs : List Rn) (w : World) (h : Runs w p rs) (hw : nWhole (N : Int) rs = true) (hm : rs.length = m) (hK : N * N = K) :
    Calls Tryz.prog 23 #[.int .i64 N, .slice p m c] w fun e w' => ∃ g, e = .returned (.agg #[.int .i64 N, .slice p m c, .int .i64 N, .slice (some ⟨g, 0, none⟩) K K, .int .i64 (trN N rs)]) ∧ w.heap.size ≤ g ∧ Own w' g 3 1 K K (gr N (lap rs)) ∧ Below w.heap.size w w' := by
  have hn := whole_nok hw
  have hN2 : 2 ≤ N := by have := (nOk_true hn).1; omega
  obtain ⟨n, hNn⟩ : ∃ n, N = n + 1 := ⟨N - 1, by omega⟩
  have c1 := fun w h => Lib.hid (by have := iWhole N p c rs true w h (by have := (nOk_true hn).2.2.1; omega) hw; rw [hm] at this; exact this)
  have c2 := fun w h => Lib.hid (iMxOf N K p c m rs w h hn hm hK)
  have c3 := fun w h => Lib.hid (by have := iTrees_yes N n p c m rs w h hn hm hNn; rw [trN_tree hn hNn] at this; exact this)
  obtain ⟨D, hD⟩ : ∃ D, trN N rs = D := ⟨_, rfl⟩
  rw [hD] at c3 ⊢
  have H := Lib.hid h
  have HC := Lib.hid (Cell5.new w (.int .i64 0) (.slice none 0 0) (.int .i64 0) (.slice none 0 0) (.int .i64 0) 55)
  clear h hw hm hn hK hNn hD
  go_enter Tryz.func23, Tryz.ntmps23
  go_wp2_with (first
    | (go_at_call 45; (with_reducible refine ((c1 _ ?_).out).mono ?_); (focus ((exact H.out.below (by repeat (first | assumption | exact Below.refl _ _ | (refine below_chain ?_ (by assumption) (by first | omega | (simp <;> omega) | simp)) | (refine Below.alloc ?_ (by first | omega | (simp <;> omega) | simp) _) | (apply below_drewN) | (apply below_drew) | (refine Below.setCell ?_ (by first | omega | (simp <;> omega) | simp) _)))); done)); rintro e wa ⟨rfl, hb_wa⟩; have hs_wa := hb_wa.size; (try simp at hs_wa))
    | ((go_at_call 46; (with_reducible refine ((c2 _ ?_).out).mono ?_); (focus (exact H.out.below (by repeat (first | assumption | exact Below.refl _ _ | (refine below_chain ?_ (by assumption) (by first | omega | (simp <;> omega) | simp)) | (refine Below.alloc ?_ (by first | omega | (simp <;> omega) | simp) _) | (apply below_drewN) | (apply below_drew) | (refine Below.setCell ?_ (by first | omega | (simp <;> omega) | simp) _))); done)); rintro e wb ⟨g, rfl, hg_wb, ho_wb, hb_wb⟩); have hs_wb := hb_wb.size; have HO := Lib.hid (And.intro hg_wb ho_wb); clear ho_wb)
    | ((go_at_call 47; (with_reducible refine ((c3 _ ?_).out).mono ?_); (focus ((exact H.out.below (by repeat (first | assumption | exact Below.refl _ _ | (refine below_chain ?_ (by assumption) (by first | omega | (simp <;> omega) | simp)) | (refine Below.alloc ?_ (by first | omega | (simp <;> omega) | simp) _) | (apply below_drewN) | (apply below_drew) | (refine Below.setCell ?_ (by first | omega | (simp <;> omega) | simp) _)))); done)); rintro e wt ⟨rfl, hb_wt⟩; have hs_wt := hb_wt.size; (try simp at hs_wt)); obtain ⟨⟨x0, x1, x2, x3, x4⟩, f0, f1, f2, f3, f4⟩ := ((HC.out.below hb_wa).below hb_wb).below hb_wt))
  have hwg : w.heap.size < g := by have h0 := HO.out.1; (try simp at hs_wa); omega
  have hBt : Below w.heap.size w wt := (by repeat (first | assumption | exact Below.refl _ _ | (refine below_chain ?_ (by assumption) (by first | omega | (simp <;> omega) | simp)) | (refine Below.alloc ?_ (by first | omega | (simp <;> omega) | simp) _) | (apply below_drewN) | (apply below_drew) | (refine Below.setCell ?_ (by first | omega | (simp <;> omega) | simp) _)))
  have hO := ((((((HO.out.2.below hb_wt).setOther (a := ⟨w.heap.size, 0, none⟩) (by dsimp only; omega) (.int .i64 N)).setOther (a := ⟨w.heap.size, 1, none⟩) (by dsimp only; omega) (.slice p m c)).setOther (a := ⟨w.heap.size, 2, none⟩) (by dsimp only; omega) (.int .i64 N)).setOther (a := ⟨w.heap.size, 3, none⟩) (by dsimp only; omega) (.slice (some ⟨g, 0, none⟩) K K)).setOther (a := ⟨w.heap.size, 4, none⟩) (by dsimp only; omega) (.int .i64 D))
  refine bodyPost_ret (v := .agg #[.int .i64 N, .slice p m c, .int .i64 N, .slice (some ⟨g, 0, none⟩) K K, .int .i64 D]) (by simp [results, Tryz.results23, go_sem, x0, x1, x2, x3, x4]) rfl ⟨g, rfl, by omega, hO, ((((hBt.setCell (Nat.le_refl _) _).setCell (Nat.le_refl _) _).setCell (Nat.le_refl _) _).setCell (Nat.le_refl _) _).setCell (Nat.le_refl _) _⟩
theorem iSpreads_no (n : Int) (p : Option Addr) (c m : Nat) (rs : List Rn) (w : World) (h : Runs w p rs) (hm : rs.length = m) (hl : m ≤ 4000000000000000000) (hw : nWhole n rs = false) :
    Calls Tryz.prog 23 #[.int .i64 n, .slice p m c] w fun e w' => e = .returned (.agg #[.int .i64 0, .slice none 0 0, .int .i64 0, .slice none 0 0, .int .i64 0]) ∧ Below w.heap.size w w' := by
  have c1 := fun w h => Lib.hid (by have := iWhole n p c rs false w h (by omega) hw; rw [hm] at this; exact this)
  have H := Lib.hid h
  have HC := Lib.hid (Cell5.new w (.int .i64 0) (.slice none 0 0) (.int .i64 0) (.slice none 0 0) (.int .i64 0) 55)
  clear h hw hm hl
  go_enter Tryz.func23, Tryz.ntmps23
  go_wp2_with ((go_at_call 45; (with_reducible refine ((c1 _ ?_).out).mono ?_); (focus ((exact H.out.below (by repeat (first | assumption | exact Below.refl _ _ | (refine below_chain ?_ (by assumption) (by first | omega | (simp <;> omega) | simp)) | (refine Below.alloc ?_ (by first | omega | (simp <;> omega) | simp) _) | (apply below_drewN) | (apply below_drew) | (refine Below.setCell ?_ (by first | omega | (simp <;> omega) | simp) _)))); done)); rintro e wa ⟨rfl, hb_wa⟩; have hs_wa := hb_wa.size; (try simp at hs_wa)); obtain ⟨⟨x0, x1, x2, x3, x4⟩, f0, f1, f2, f3, f4⟩ := HC.out.below hb_wa)
  have hBt : Below w.heap.size w wa := (by repeat (first | assumption | exact Below.refl _ _ | (refine below_chain ?_ (by assumption) (by first | omega | (simp <;> omega) | simp)) | (refine Below.alloc ?_ (by first | omega | (simp <;> omega) | simp) _) | (apply below_drewN) | (apply below_drew) | (refine Below.setCell ?_ (by first | omega | (simp <;> omega) | simp) _)))
  refine bodyPost_ret (v := .agg #[.int .i64 0, .slice none 0 0, .int .i64 0, .slice none 0 0, .int .i64 0]) (by simp [results, Tryz.results23, go_sem, x0, x1, x2, x3, x4]) rfl ⟨rfl, ((((hBt.setCell (Nat.le_refl _) _).setCell (Nat.le_refl _) _).setCell (Nat.le_refl _) _).setCell (Nat.le_refl _) _).setCell (Nat.le_refl _) _⟩
theorem iBetween_no (n i j : Int) (v1 v2 v3 v4 : Value) (w : World) (hno : ¬ ((0 ≤ i ∧ i < n) ∧ (0 ≤ j ∧ j < n))) :
    Calls Tryz.prog 71 #[.agg #[.int .i64 n, v1, v2, v3, v4], .int .i64 i, .int .i64 j] w fun e w' => e = .returned (.tuple #[.agg #[.int .i64 0, .int .i64 0], .bool false]) ∧ Below w.heap.size w w' := by
  by_cases hi : 0 ≤ i ∧ i < n
  · have hj : ¬ (0 ≤ j ∧ j < n) := fun h => hno ⟨hi, h⟩
    have c1 := fun w => Lib.hid (nHas n i true w (decide_eq_true hi))
    have c2 := fun w => Lib.hid (nHas n j false w (decide_eq_false hj))
    clear hno hi hj
    go_enter Tryz.func71, Tryz.ntmps71
    go_wp2_with (first | (go_at_call 92; (with_reducible refine ((c1 _).out).mono ?_); rintro e w' ⟨rfl, rfl⟩) | (go_at_call 92; (with_reducible refine ((c2 _).out).mono ?_); rintro e w' ⟨rfl, rfl⟩))
    refine bodyPost_ret (v := .tuple #[.agg #[.int .i64 0, .int .i64 0], .bool false]) (by simp [results, Tryz.results71, go_sem]) rfl ⟨rfl, (by repeat (first | assumption | exact Below.refl _ _ | (refine below_chain ?_ (by assumption) (by first | omega | (simp <;> omega) | simp)) | (refine Below.alloc ?_ (by first | omega | (simp <;> omega) | simp) _) | (apply below_drewN) | (apply below_drew) | (refine Below.setCell ?_ (by first | omega | (simp <;> omega) | simp) _)))⟩
  · have c1 := fun w => Lib.hid (nHas n i false w (decide_eq_false hi))
    clear hno hi
    go_enter Tryz.func71, Tryz.ntmps71
    go_wp2_with ((go_at_call 92; (with_reducible refine ((c1 _).out).mono ?_); rintro e w' ⟨rfl, rfl⟩))
    refine bodyPost_ret (v := .tuple #[.agg #[.int .i64 0, .int .i64 0], .bool false]) (by simp [results, Tryz.results71, go_sem]) rfl ⟨rfl, (by repeat (first | assumption | exact Below.refl _ _ | (refine below_chain ?_ (by assumption) (by first | omega | (simp <;> omega) | simp)) | (refine Below.alloc ?_ (by first | omega | (simp <;> omega) | simp) _) | (apply below_drewN) | (apply below_drew) | (refine Below.setCell ?_ (by first | omega | (simp <;> omega) | simp) _)))⟩
set_option maxHeartbeats 4000000 in
set_option maxRecDepth 100000 in
theorem iBetween_yes (N K i j g : Nat) (p : Option Addr) (c m : Nat) (rs : List Rn) (w : World) (h : Own w g 3 1 K K (gr N (lap rs))) (hw : nWhole (N : Int) rs = true) (hK : N * N = K) (hi : i < N) (hj : j < N) :
    Calls Tryz.prog 71 #[.agg #[.int .i64 N, .slice p m c, .int .i64 N, .slice (some ⟨g, 0, none⟩) K K, .int .i64 (trN N rs)], .int .i64 i, .int .i64 j] w fun e w' => e = .returned (.tuple #[.agg #[.int .i64 (sprT N rs i j), .int .i64 (sprL N rs i j)], .bool true]) ∧ Below w.heap.size w w' := by
  have hn := whole_nok hw
  have hN2 : 2 ≤ N := by have := (nOk_true hn).1; omega
  have hN6 : N ≤ 6 := by have := (nOk_true hn).2.1; omega
  have c1 := fun w => Lib.hid (nHas N i true w (by simp; omega))
  have c2 := fun w => Lib.hid (nHas N j true w (by simp; omega))
  have hq := spr_of (i := i) (j := j) hw hi hj
  by_cases hij : i = j
  · have hs := spr_self (i := i) hw
    subst hij
    rw [hs.1, hs.2]
    obtain ⟨D, hD⟩ : ∃ D, trN N rs = D := ⟨_, rfl⟩
    rw [hD]
    clear h hw hn hq hs hD c2
    go_enter Tryz.func71, Tryz.ntmps71
    go_wp2_with ((go_at_call 92; (with_reducible refine ((c1 _).out).mono ?_); rintro e w' ⟨rfl, rfl⟩))
    refine bodyPost_ret (v := .tuple #[.agg #[.int .i64 0, .int .i64 1], .bool true]) (by simp [results, Tryz.results71, go_sem]) rfl ⟨rfl, (by repeat (first | assumption | exact Below.refl _ _ | (refine below_chain ?_ (by assumption) (by first | omega | (simp <;> omega) | simp)) | (refine Below.alloc ?_ (by first | omega | (simp <;> omega) | simp) _) | (apply below_drewN) | (apply below_drew) | (refine Below.setCell ?_ (by first | omega | (simp <;> omega) | simp) _)))⟩
  · obtain ⟨n, hNn⟩ : ∃ n, N = n + 2 := ⟨N - 2, by omega⟩
    have hk2 := ktp_two N (by omega) i hi j hj hij
    have hkl : (ktp [(i : Int), (j : Int)] N).length = n := by rw [hk2]; simp; omega
    have hka : ∀ x, x < n → ktpA [(i : Int), (j : Int)] N x = skip (max i j) (skip (min i j) x) := fun x hx => by
      unfold ktpA
      rw [hk2, List.getElem?_map, List.getElem?_range (by omega)]; rfl
    have hm2 : mkL n (fun x y => lap rs (ktpA [(i : Int), (j : Int)] N x) (ktpA [(i : Int), (j : Int)] N y)) = mkL n (fun x y => lap rs (skip (max i j) (skip (min i j) x)) (skip (max i j) (skip (min i j) y))) := mkL_congr (fun x y hx hy => by rw [hka x hx, hka y hy])
    have hde : det n (ent (mkL n (fun x y => lap rs (skip (max i j) (skip (min i j) x)) (skip (max i j) (skip (min i j) y))))) = spN N rs i j := by
      subst hNn
      rw [det_congr (fun x y hx hy => ent_mkL hx hy)]
      rcases Nat.lt_or_ge i j with h | h
      · have e1 : max i j = j := by omega
        have e2 : min i j = i := by omega
        rw [e1, e2]
        exact det_spN (nOk_in hn) h hj
      · have e1 : max i j = i := by omega
        have e2 : min i j = j := by omega
        rw [e1, e2, spN_sym]
        exact det_spN (nOk_in hn) (by omega) hi
    obtain ⟨L0, hL0⟩ : ∃ L, mkL n (fun x y => lap rs (skip (max i j) (skip (min i j) x)) (skip (max i j) (skip (min i j) y))) = L := ⟨_, rfl⟩
    have hsq : Sq n L0 := by rw [← hL0]; exact mkL_sq
    have hsm : SmE n 1000 (ent L0) := fun x y hx hy => by
      rw [← hL0, ent_mkL hx hy]
      have := lap_low (rs := rs) (fun x hx => ⟨(ok_runs hn x hx).1, (ok_runs hn x hx).2.1, (ok_runs hn x hx).2.2.1⟩) (nOk_true hn).2.2.1 (skip (max i j) (skip (min i j) x)) (skip (max i j) (skip (min i j) y))
      omega
    rw [hL0] at hm2 hde
    have c3 := fun pn W hh hq2 => Lib.hid (by have := iWithout K N 2 2 g n pn [(i : Int), (j : Int)] (lap rs) W hh hK hN6 hq2 rfl (by omega) hkl (by omega); rw [hm2] at this; exact this)
    have c4 := fun p d w h => Lib.hid (by have := iDet n d p L0 w h hsq (by omega) hsm; rw [hde] at this; exact this)
    obtain ⟨x, hx⟩ : ∃ x, sprT N rs i j = x := ⟨_, rfl⟩
    obtain ⟨y, hy⟩ : ∃ y, sprL N rs i j = y := ⟨_, rfl⟩
    rw [hx, hy] at hq ⊢
    obtain ⟨A, hA⟩ : ∃ A, spN N rs i j = A := ⟨_, rfl⟩
    obtain ⟨D, hD⟩ : ∃ D, trN N rs = D := ⟨_, rfl⟩
    rw [hA, hD] at hq
    rw [hA] at c4
    rw [hD]
    have c5 := fun w => Lib.hid (by have := iof_any A D w; rw [hq.1, hq.2.1, hq.2.2] at this; exact this)
    have hij' : ¬ (i : Int) = (j : Int) := by omega
    have H := Lib.hid h
    clear h hw hn hq hNn hk2 hkl hka hm2 hde hsq hsm hL0 hx hy hA hD hK
    go_enter Tryz.func71, Tryz.ntmps71
    go_upto_region 5 with (first | (go_at_call 92; (with_reducible refine ((c1 _).out).mono ?_); rintro e w' ⟨rfl, rfl⟩) | (go_at_call 92; (with_reducible refine ((c2 _).out).mono ?_); rintro e w' ⟨rfl, rfl⟩))
    obtain ⟨b, hbe⟩ : ∃ b, b = w.heap.size := ⟨_, rfl⟩
    obtain ⟨R, hRe⟩ : ∃ R, R = b + 1 := ⟨_, rfl⟩
    refine gen_world (fun W => W.cell? ⟨b, 2, none⟩ = some (.int .i64 (N : Int)) ∧ W.cell? ⟨b, 3, none⟩ = some (.slice (some ⟨g, 0, none⟩) K K) ∧ W.cell? ⟨b, 4, none⟩ = some (.int .i64 D) ∧ Cell2 W R 0 0 ∧ Own W g 3 1 K K (gr N (lap rs)) ∧ Below w.heap.size w W) ?_ ?_
    · rw [hRe, hbe]
      have hB : Below w.heap.size w ((w.alloc (.cells #[.int .i64 (N : Int), .slice p m c, .int .i64 (N : Int), .slice (some ⟨g, 0, none⟩) K K, .int .i64 D] 55)).alloc (.cells #[.int .i64 0, .int .i64 0] 27)) := (by repeat (first | assumption | exact Below.refl _ _ | (refine below_chain ?_ (by assumption) (by first | omega | (simp <;> omega) | simp)) | (refine Below.alloc ?_ (by first | omega | (simp <;> omega) | simp) _) | (apply below_drewN) | (apply below_drew) | (refine Below.setCell ?_ (by first | omega | (simp <;> omega) | simp) _)))
      refine ⟨by simp [go_sem], by simp [go_sem], by simp [go_sem], ?_, H.out.below hB, hB⟩
      have := Cell2.new (w.alloc (.cells #[.int .i64 (N : Int), .slice p m c, .int .i64 (N : Int), .slice (some ⟨g, 0, none⟩) K K, .int .i64 D] 55)) 0 0 27
      simpa using this
    · intro V hV
      rw [← hbe, ← hRe]
      obtain ⟨m2, m3, m4, hC, hO, hBV⟩ := hV
      have hRw : w.heap.size ≤ R := by omega
      have hbR : ¬ b = R := by omega
      have hRb : ¬ R = b := by omega
      have HO := Lib.hid (And.intro hO hBV)
      obtain ⟨q1, q2, q3, q4⟩ := hC
      have hRl := World.block_lt_of_cell? V _ q1
      have hbl := World.block_lt_of_cell? V _ m2
      clear hO hBV hbe hRe c1 c2
      go_region_held3 (fun W => W.cell? ⟨b, 2, none⟩ = some (.int .i64 (N : Int)) ∧ W.cell? ⟨b, 3, none⟩ = some (.slice (some ⟨g, 0, none⟩) K K) ∧ W.cell? ⟨b, 4, none⟩ = some (.int .i64 D)) (first | (go_keep; done) | (refine ⟨?_, ?_, ?_⟩ <;> (first | ((with_reducible refine cell_below_keep (by with_reducible assumption) ?_); with_reducible assumption) | ((with_reducible refine cell_set_keep _ ?_ ?_); (focus (dsimp only; omega)); (with_reducible refine cell_set_keep _ ?_ ?_); (focus (dsimp only; omega)); with_reducible assumption)))) (first
        | (go_at_call 89; (with_reducible refine ((c3 _ _ ?_ ?_).out).mono ?_); (focus (exact HO.out.1.below (by repeat (first | assumption | exact Below.refl _ _ | (refine below_chain ?_ (by assumption) (by first | omega | (simp <;> omega) | simp)) | (refine Below.alloc ?_ (by first | omega | (simp <;> omega) | simp) _) | (apply below_drewN) | (apply below_drew) | (refine Below.setCell ?_ (by first | omega | (simp <;> omega) | simp) _))); done)); (focus (exact ints_two (by simp [go_sem]) (by simp [go_sem]); done)); rintro e w2 ⟨g2, bs, rfl, hg_w2, hb_w2⟩; have HG := Lib.hid hg_w2; have hV2 : Below V.heap.size V w2 := (by repeat (first | assumption | exact Below.refl _ _ | (refine below_chain ?_ (by assumption) (by first | omega | (simp <;> omega) | simp)) | (refine Below.alloc ?_ (by first | omega | (simp <;> omega) | simp) _) | (apply below_drewN) | (apply below_drew) | (refine Below.setCell ?_ (by first | omega | (simp <;> omega) | simp) _))); clear hg_w2; have l0 := cell_below_keep hV2 m2; have l1 := cell_below_keep hV2 m3; have l2 := cell_below_keep hV2 m4; have r1 := cell_below_keep hV2 q1; have r2 := cell_below_keep hV2 q2; have r3 := frozen_below_kE hV2 q1 q3; have r4 := frozen_below_kE hV2 q2 q4)
        | (go_at_call 70; (with_reducible refine ((c4 _ _ _ ?_).out).mono ?_); (focus (exact HG.out.read; done)); rintro e w3 ⟨rfl, hb_w3⟩; have hV3 : Below V.heap.size V w3 := hV2.trans (hb_w3.mono hV2.size); have l0 := cell_below_keep hV3 m2; have l1 := cell_below_keep hV3 m3; have l2 := cell_below_keep hV3 m4; have r1 := cell_below_keep hV3 q1; have r2 := cell_below_keep hV3 q2; have r3 := frozen_below_kE hV3 q1 q3; have r4 := frozen_below_kE hV3 q2 q4)
        | (go_at_call 17; (with_reducible refine ((c5 _).out).mono ?_); rintro e w4 ⟨rfl, hb_w4⟩; have hV4 : Below V.heap.size V w4 := hV3.trans (hb_w4.mono hV3.size); have l0 := cell_below_keep hV4 m2; have l1 := cell_below_keep hV4 m3; have l2 := cell_below_keep hV4 m4; have r1 := cell_below_keep hV4 q1; have r2 := cell_below_keep hV4 q2; have r3 := frozen_below_kE hV4 q1 q3; have r4 := frozen_below_kE hV4 q2 q4))
      have hB9 : Below w.heap.size w w4 := HO.out.2.trans (hV4.mono HO.out.2.size)
      go_wp2_with fail
      refine bodyPost_ret (v := .tuple #[.agg #[.int .i64 x, .int .i64 y], .bool true]) (by simp [results, Tryz.results71, go_sem, r1, r2]) rfl ⟨rfl, (hB9.setCell hRw _).setCell hRw _⟩
theorem iAlong_no (k : Int) (p : Option Addr) (c m : Nat) (v0 v2 v3 v4 : Value) (w : World) (hno : ¬ (0 ≤ k ∧ k < (m : Int))) :
    Calls Tryz.prog 48 #[.agg #[v0, .slice p m c, v2, v3, v4], .int .i64 k] w fun e w' => e = .returned (.tuple #[.agg #[.int .i64 0, .int .i64 0], .bool false]) ∧ Below w.heap.size w w' := by
  have c1 := fun w => Lib.hid (nHasRun p m c k false w (decide_eq_false hno))
  clear hno
  go_enter Tryz.func48, Tryz.ntmps48
  go_wp2_with ((go_at_call 56; (with_reducible refine ((c1 _).out).mono ?_); rintro e w' ⟨rfl, rfl⟩))
  refine bodyPost_ret (v := .tuple #[.agg #[.int .i64 0, .int .i64 0], .bool false]) (by simp [results, Tryz.results48, go_sem]) rfl ⟨rfl, (by repeat (first | assumption | exact Below.refl _ _ | (refine below_chain ?_ (by assumption) (by first | omega | (simp <;> omega) | simp)) | (refine Below.alloc ?_ (by first | omega | (simp <;> omega) | simp) _) | (apply below_drewN) | (apply below_drew) | (refine Below.setCell ?_ (by first | omega | (simp <;> omega) | simp) _)))⟩
set_option maxHeartbeats 4000000 in
set_option maxRecDepth 100000 in
theorem iAlong_yes (N K k g : Nat) (p : Option Addr) (c m : Nat) (rs : List Rn) (r : Rn) (w : World) (h : Own w g 3 1 K K (gr N (lap rs))) (hR : Runs w p rs) (hw : nWhole (N : Int) rs = true) (hK : N * N = K) (hm : rs.length = m) (hr : rs[k]? = some r) :
    Calls Tryz.prog 48 #[.agg #[.int .i64 N, .slice p m c, .int .i64 N, .slice (some ⟨g, 0, none⟩) K K, .int .i64 (trN N rs)], .int .i64 k] w fun e w' => e = .returned (.tuple #[.agg #[.int .i64 (srT N rs r), .int .i64 (srL N rs r)], .bool true]) ∧ Below w.heap.size w w' := by
  have hn := whole_nok hw
  have hl : m ≤ 12 := by rw [← hm]; exact (nOk_true hn).2.2.1
  have hkm : k < m := by rw [← hm]; exact (List.getElem?_eq_some_iff.1 hr).1
  have hkm' : (k : Int) < (m : Int) := by omega
  obtain ⟨e1', e2', e3', e4', e5'⟩ := run_ends hn hr
  have c2 := fun w => Lib.hid (nHasRun p m c k true w (by simp; omega))
  have c3 := fun w h => Lib.hid (iBetween_yes N K r.f.toNat r.t.toNat g p c m rs w h hw hK e1' e2')
  have hv := (sr_times hw hr).2
  obtain ⟨B, o, r', rfl, hr', hB, e1, e2, e3, e4⟩ := hR.at (i := k) (by omega)
  obtain rfl : r = r' := by rw [hr] at hr'; cases hr'; rfl
  obtain ⟨sx, hsx⟩ : ∃ x, sprT N rs r.f.toNat r.t.toNat = x := ⟨_, rfl⟩
  obtain ⟨sy, hsy⟩ : ∃ x, sprL N rs r.f.toNat r.t.toNat = x := ⟨_, rfl⟩
  rw [hsx, hsy] at c3 hv
  rw [e4', e5'] at c3
  obtain ⟨TX, hX⟩ : ∃ X, srT N rs r = X := ⟨_, rfl⟩
  obtain ⟨TY, hY⟩ : ∃ Y, srL N rs r = Y := ⟨_, rfl⟩
  rw [hX, hY] at hv ⊢
  obtain ⟨D, hD⟩ : ∃ D, trN N rs = D := ⟨_, rfl⟩
  rw [hD] at c3 ⊢
  have c4 := fun w => Lib.hid (by have := iTimes_any r.g 1 sx sy w; rw [hv.1, hv.2.1, hv.2.2] at this; exact this)
  have H := Lib.hid h
  clear h hR hw hn hm hr hr' hv hsx hsy hX hY hD hK e3 e1' e2' e3' e4' e5'
  go_enter Tryz.func48, Tryz.ntmps48
  go_upto_region 3 with ((go_at_call 56; (with_reducible refine ((c2 _).out).mono ?_); rintro e w' ⟨rfl, rfl⟩))
  obtain ⟨b, hbe⟩ : ∃ b, b = w.heap.size := ⟨_, rfl⟩
  obtain ⟨R, hRe⟩ : ∃ R, R = b + 1 := ⟨_, rfl⟩
  refine gen_world (fun W => (W.cell? ⟨b, 0, none⟩ = some (.int .i64 (N : Int)) ∧ W.cell? ⟨b, 1, none⟩ = some (.slice (some ⟨B, o, none⟩) m c) ∧ W.cell? ⟨b, 2, none⟩ = some (.int .i64 (N : Int)) ∧ W.cell? ⟨b, 3, none⟩ = some (.slice (some ⟨g, 0, none⟩) K K) ∧ W.cell? ⟨b, 4, none⟩ = some (.int .i64 D)) ∧ Cell2 W R 0 0 ∧ Below w.heap.size w W) ?_ ?_
  · rw [hRe, hbe]
    have hB : Below w.heap.size w ((w.alloc (.cells #[.int .i64 (N : Int), .slice (some ⟨B, o, none⟩) m c, .int .i64 (N : Int), .slice (some ⟨g, 0, none⟩) K K, .int .i64 D] 55)).alloc (.cells #[.int .i64 0, .int .i64 0] 27)) := (by repeat (first | assumption | exact Below.refl _ _ | (refine below_chain ?_ (by assumption) (by first | omega | (simp <;> omega) | simp)) | (refine Below.alloc ?_ (by first | omega | (simp <;> omega) | simp) _) | (apply below_drewN) | (apply below_drew) | (refine Below.setCell ?_ (by first | omega | (simp <;> omega) | simp) _)))
    refine ⟨⟨by simp [go_sem], by simp [go_sem], by simp [go_sem], by simp [go_sem], by simp [go_sem]⟩, ?_, hB⟩
    have := Cell2.new (w.alloc (.cells #[.int .i64 (N : Int), .slice (some ⟨B, o, none⟩) m c, .int .i64 (N : Int), .slice (some ⟨g, 0, none⟩) K K, .int .i64 D] 55)) 0 0 27
    simpa using this
  · intro V hV
    rw [← hbe, ← hRe]
    obtain ⟨⟨m0, m1, m2, m3, m4⟩, hC, hBV⟩ := hV
    have hRw : w.heap.size ≤ R := by omega
    have hbR : ¬ b = R := by omega
    have hRb : ¬ R = b := by omega
    have hBb : ¬ B = b := by omega
    have hbB : ¬ b = B := by omega
    have hBR : ¬ B = R := by omega
    have hRB : ¬ R = B := by omega
    have d1 := cell_below_keep hBV e1
    have d2 := cell_below_keep hBV e2
    have d4 := cell_below_keep hBV e4
    have HA := Lib.hid (And.intro hBV (And.intro d4 (And.intro hC m1)))
    have hRl := hC.lt
    have hbl := World.block_lt_of_cell? V _ m0
    have hBl := World.block_lt_of_cell? V _ d1
    clear hBV hC hbe hRe c2 e1 e2 e4 d4
    apply ways_cellR (x := sx) (y := sy) (V := V)
    · intro REST
      go_region_held3 (fun W => W.cell? ⟨b, 0, none⟩ = some (.int .i64 (N : Int)) ∧ W.cell? ⟨b, 1, none⟩ = some (.slice (some ⟨B, o, none⟩) m c) ∧ W.cell? ⟨b, 2, none⟩ = some (.int .i64 (N : Int)) ∧ W.cell? ⟨b, 3, none⟩ = some (.slice (some ⟨g, 0, none⟩) K K) ∧ W.cell? ⟨b, 4, none⟩ = some (.int .i64 D) ∧ W.cell? ⟨B, o + k * 4, none⟩ = some (.int .i64 r.f) ∧ W.cell? ⟨B, o + k * 4 + 1, none⟩ = some (.int .i64 r.t)) (first | (go_keep; done) | (refine ⟨?_, ?_, ?_, ?_, ?_, ?_, ?_⟩ <;> (first | ((with_reducible refine cell_below_keep (by with_reducible assumption) ?_); with_reducible assumption) | ((with_reducible refine cell_set_keep _ ?_ ?_); (focus (dsimp only; omega)); (with_reducible refine cell_set_keep _ ?_ ?_); (focus (dsimp only; omega)); with_reducible assumption)))) (first | (go_at_call 71; (with_reducible refine ((c3 _ ?_).out).mono ?_); (focus (exact (H.out.below HA.out.1).below (by repeat (first | assumption | exact Below.refl _ _ | (refine below_chain ?_ (by assumption) (by first | omega | (simp <;> omega) | simp)) | (refine Below.alloc ?_ (by first | omega | (simp <;> omega) | simp) _) | (apply below_drewN) | (apply below_drew) | (refine Below.setCell ?_ (by first | omega | (simp <;> omega) | simp) _))); done)); rintro e w1 ⟨rfl, hb_w1⟩; (first | (have hV1 : Below V.heap.size V w1 := (below_drew (Below.refl _ _)).trans hb_w1; have a0 := cell_below_keep hV1 d1; have b0 := World.block_lt_of_cell? _ _ a0; have a1 := cell_below_keep hV1 d2; have b1 := World.block_lt_of_cell? _ _ a1; have a2 := cell_below_keep hV1 m0; have b2 := World.block_lt_of_cell? _ _ a2; have a3 := cell_below_keep hV1 m1; have b3 := World.block_lt_of_cell? _ _ a3; have a4 := cell_below_keep hV1 m2; have b4 := World.block_lt_of_cell? _ _ a4; have a5 := cell_below_keep hV1 m3; have b5 := World.block_lt_of_cell? _ _ a5; have a6 := cell_below_keep hV1 m4; have b6 := World.block_lt_of_cell? _ _ a6) | (have hV1 : Below V.heap.size V w1 := ((below_drew (Below.refl V.heap.size V)).alloc (Nat.le_refl _) (.cells #[.int .i64 0, .int .i64 0] 27)).trans (hb_w1.mono (by simp)); have a0 := cell_below_keep hV1 d1; have b0 := World.block_lt_of_cell? _ _ a0; have a1 := cell_below_keep hV1 d2; have b1 := World.block_lt_of_cell? _ _ a1; have a2 := cell_below_keep hV1 m0; have b2 := World.block_lt_of_cell? _ _ a2; have a3 := cell_below_keep hV1 m1; have b3 := World.block_lt_of_cell? _ _ a3; have a4 := cell_below_keep hV1 m2; have b4 := World.block_lt_of_cell? _ _ a4; have a5 := cell_below_keep hV1 m3; have b5 := World.block_lt_of_cell? _ _ a5; have a6 := cell_below_keep hV1 m4; have b6 := World.block_lt_of_cell? _ _ a6; obtain ⟨y1, y2, y3, y4⟩ := (show Cell2 w1 V.heap.size 0 0 from (Cell2.new V.drew 0 0 27).below hb_w1)))))
      all_goals
        first
        | (have hYA := Cell2.new w1 sx sy 27; have hBA : Below V.heap.size V (w1.alloc (.cells #[.int .i64 sx, .int .i64 sy] 27)) := hV1.alloc hV1.size _; obtain ⟨Y, hYe⟩ : ∃ Y, w1.heap.size = Y := ⟨_, rfl⟩; rw [hYe] at hYA ⊢; refine gen_exitR (fun W => Cell2 W Y sx sy ∧ Below V.heap.size V W) ⟨hYA, hBA⟩ (fun W hW => ?_); exact REST Y W hW.1 (by have := hV1.size; omega) hW.2)
        | (have hYA := (show Cell2 w1 V.heap.size 0 0 from ⟨y1, y2, y3, y4⟩).set sx sy; have hBA : Below V.heap.size V ((w1.setCell ⟨V.heap.size, 0, none⟩ (.int .i64 sx)).setCell ⟨V.heap.size, 1, none⟩ (.int .i64 sy)) := (hV1.setCell (Nat.le_refl _) _).setCell (Nat.le_refl _) _; refine gen_exitR (fun W => Cell2 W V.heap.size sx sy ∧ Below V.heap.size V W) ⟨hYA, hBA⟩ (fun W hW => ?_); obtain ⟨hW1, hW2⟩ := hW; obtain ⟨Y, hYe⟩ : ∃ Y, V.heap.size = Y := ⟨_, rfl⟩; rw [hYe] at hW1 ⊢; exact REST Y W hW1 (by have := hV1.size; omega) hW2)
    · intro X W hC hXa hBW
      obtain ⟨m6, m7, -, -⟩ := hC
      have hXl := World.block_lt_of_cell? W _ m6
      obtain ⟨q1, q2, q3, q4⟩ := HA.out.2.2.1.below hBW
      have m5 := cell_below_keep hBW HA.out.2.1
      have m1 := cell_below_keep hBW HA.out.2.2.2
      have hB9 := HA.out.1.trans (hBW.mono HA.out.1.size)
      have hXR : ¬ X = R := by omega
      have hRX : ¬ R = X := by omega
      have HB9 := Lib.hid hB9
      clear d1 d2 c3 hBW m0 m2 m3 m4 hB9
      go_upto_region 6 with fail
      go_region_held3 (fun W => W.cell? ⟨b, 1, none⟩ = some (.slice (some ⟨B, o, none⟩) m c) ∧ W.cell? ⟨B, o + k * 4 + 3, none⟩ = some (.int .i64 r.g) ∧ W.cell? ⟨X, 0, none⟩ = some (.int .i64 sx) ∧ W.cell? ⟨X, 1, none⟩ = some (.int .i64 sy)) (first | (go_keep; done) | (refine ⟨?_, ?_, ?_, ?_⟩ <;> (first | ((with_reducible refine cell_below_keep (by with_reducible assumption) ?_); with_reducible assumption) | ((with_reducible refine cell_set_keep _ ?_ ?_); (focus (dsimp only; omega)); (with_reducible refine cell_set_keep _ ?_ ?_); (focus (dsimp only; omega)); with_reducible assumption))))
        (first | (go_at_call 12; (with_reducible refine ((c4 _).out).mono ?_); rintro e w2 ⟨rfl, hb_w2⟩; have l1 := cell_below_keep hb_w2 (cell_drew_keep m6); have l2 := cell_below_keep hb_w2 (cell_drew_keep m7); have l3 := cell_below_keep hb_w2 (cell_drew_keep m5); have l4 := cell_below_keep hb_w2 (cell_drew_keep m1); have r1 := cell_below_keep hb_w2 (cell_drew_keep q1); have r2 := cell_below_keep hb_w2 (cell_drew_keep q2); have r3 := frozen_below_kE hb_w2 (cell_drew_keep q1) q3; have r4 := frozen_below_kE hb_w2 (cell_drew_keep q2) q4))
      have hBT : Below w.heap.size w w2 := HB9.out.trans (((below_drew (Below.refl _ _)).trans hb_w2).mono HB9.out.size)
      go_wp2_with fail
      refine bodyPost_ret (v := .tuple #[.agg #[.int .i64 TX, .int .i64 TY], .bool true]) (by simp [results, Tryz.results48, go_sem, r1, r2]) rfl ⟨rfl, (hBT.setCell hRw _).setCell hRw _⟩
set_option maxHeartbeats 4000000 in
theorem iFreeM_no (k : Int) (p : Option Addr) (c m : Nat) (n n2 d : Int) (v3 : Value) (w : World) (hno : ¬ (0 ≤ k ∧ k < (m : Int))) :
    Calls Tryz.prog 24 #[.agg #[.int .i64 n, .slice p m c, .int .i64 n2, v3, .int .i64 d], .int .i64 k] w fun e w' => e = .returned (.tuple #[.agg #[.int .i64 0, .int .i64 0], .bool false]) ∧ Below w.heap.size w w' := by
  have c1 := fun w => Lib.hid (iAlong_no k p c m (.int .i64 n) (.int .i64 n2) v3 (.int .i64 d) w hno)
  clear hno
  go_enter Tryz.func24, Tryz.ntmps24
  go_upto_region 1 with fail
  obtain ⟨b, hbe⟩ : ∃ b, b = w.heap.size := ⟨_, rfl⟩
  obtain ⟨R, hRe⟩ : ∃ R, R = b + 1 := ⟨_, rfl⟩
  refine gen_world (fun W => Cell5 W b (.int .i64 n) (.slice p m c) (.int .i64 n2) v3 (.int .i64 d) ∧ Cell2 W R 0 0 ∧ Below w.heap.size w W) ?_ ?_
  · rw [hRe, hbe]
    refine ⟨(Cell5.new w _ _ _ _ _ 55).below (by repeat (first | assumption | exact Below.refl _ _ | (refine below_chain ?_ (by assumption) (by first | omega | (simp <;> omega) | simp)) | (refine Below.alloc ?_ (by first | omega | (simp <;> omega) | simp) _) | (apply below_drewN) | (apply below_drew) | (refine Below.setCell ?_ (by first | omega | (simp <;> omega) | simp) _))), ?_, (by repeat (first | assumption | exact Below.refl _ _ | (refine below_chain ?_ (by assumption) (by first | omega | (simp <;> omega) | simp)) | (refine Below.alloc ?_ (by first | omega | (simp <;> omega) | simp) _) | (apply below_drewN) | (apply below_drew) | (refine Below.setCell ?_ (by first | omega | (simp <;> omega) | simp) _)))⟩
    have := Cell2.new (w.alloc (.cells #[.int .i64 n, .slice p m c, .int .i64 n2, v3, .int .i64 d] 55)) 0 0 27
    simpa using this
  · intro V hV
    rw [← hbe, ← hRe]
    obtain ⟨h5, hC, hBV⟩ := hV
    have HV := Lib.hid (And.intro hC hBV)
    have hRw : w.heap.size ≤ R := by omega
    obtain ⟨⟨m0, m1, m2, m3, m4⟩, -⟩ := h5
    clear hC hBV hbe hRe
    go_upto_region 2 with ((go_at_call 48; (with_reducible refine ((c1 _).out).mono ?_); rintro e wa ⟨rfl, hb_wa⟩; have hs_wa := hb_wa.size; (try simp at hs_wa)))
    obtain ⟨q1, q2, q3, q4⟩ := HV.out.1.below hb_wa
    have hBa := HV.out.2.trans (hb_wa.mono HV.out.2.size)
    have hRl := World.block_lt_of_cell? wa _ q1
    clear m0 m1 m2 m3 m4 c1
    have hal : Below wa.heap.size wa (wa.alloc (.cells #[.int .i64 0, .int .i64 0] 27)) := (Below.refl _ _).alloc (Nat.le_refl _) _
    have k1 := cell_below_keep hal q1
    have k2 := cell_below_keep hal q2
    have k3 := frozen_below_kE hal q1 q3
    have k4 := frozen_below_kE hal q2 q4
    have hBV2 := hBa.trans (hal.mono hBa.size)
    obtain ⟨W, hW⟩ : ∃ V, V = wa.alloc (.cells #[.int .i64 0, .int .i64 0] 27) := ⟨_, rfl⟩
    rw [← hW] at k1 k2 k3 k4 hBV2 ⊢
    clear hW hal q1 q2 q3 q4
    go_wp2_with fail
    refine bodyPost_ret (v := .tuple #[.agg #[.int .i64 0, .int .i64 0], .bool false]) (by simp [results, Tryz.results24, go_sem, k1, k2]) rfl ⟨rfl, (hBV2.setCell hRw _).setCell hRw _⟩
set_option maxHeartbeats 4000000 in
theorem iFreeM_yes (N K k g : Nat) (p : Option Addr) (c m : Nat) (rs : List Rn) (r : Rn) (w : World) (h : Own w g 3 1 K K (gr N (lap rs))) (hR : Runs w p rs) (hw : nWhole (N : Int) rs = true) (hK : N * N = K) (hm : rs.length = m) (hr : rs[k]? = some r) :
    Calls Tryz.prog 24 #[.agg #[.int .i64 N, .slice p m c, .int .i64 N, .slice (some ⟨g, 0, none⟩) K K, .int .i64 (trN N rs)], .int .i64 k] w fun e w' => e = .returned (.tuple #[.agg #[.int .i64 (sfT N rs r), .int .i64 (sfL N rs r)], .bool true]) ∧ Below w.heap.size w w' := by
  have c1 := fun w h hR => Lib.hid (iAlong_yes N K k g p c m rs r w h hR hw hK hm hr)
  have hv := sf_take hw hr
  have hvb := Quo.qv_true (sr_val hw hr).1
  obtain ⟨sx, hsx⟩ : ∃ x, srT N rs r = x := ⟨_, rfl⟩
  obtain ⟨sy, hsy⟩ : ∃ x, srL N rs r = x := ⟨_, rfl⟩
  rw [hsx, hsy] at c1 hv hvb
  obtain ⟨TX, hX⟩ : ∃ X, sfT N rs r = X := ⟨_, rfl⟩
  obtain ⟨TY, hY⟩ : ∃ Y, sfL N rs r = Y := ⟨_, rfl⟩
  rw [hX, hY] at hv ⊢
  obtain ⟨D, hD⟩ : ∃ D, trN N rs = D := ⟨_, rfl⟩
  rw [hD] at c1 ⊢
  have c4 := fun w => Lib.hid (by have := iTake_any 1 1 sx sy w (by omega) (by omega); rw [hv.1, hv.2.1, hv.2.2] at this; exact this)
  have H := Lib.hid (And.intro h hR)
  clear h hR hw hm hr hv hvb hsx hsy hX hY hD hK
  go_enter Tryz.func24, Tryz.ntmps24
  go_upto_region 1 with fail
  obtain ⟨b, hbe⟩ : ∃ b, b = w.heap.size := ⟨_, rfl⟩
  obtain ⟨R, hRe⟩ : ∃ R, R = b + 1 := ⟨_, rfl⟩
  refine gen_world (fun W => Cell5 W b (.int .i64 (N : Int)) (.slice p m c) (.int .i64 (N : Int)) (.slice (some ⟨g, 0, none⟩) K K) (.int .i64 D) ∧ Cell2 W R 0 0 ∧ Below w.heap.size w W) ?_ ?_
  · rw [hRe, hbe]
    refine ⟨(Cell5.new w _ _ _ _ _ 55).below (by repeat (first | assumption | exact Below.refl _ _ | (refine below_chain ?_ (by assumption) (by first | omega | (simp <;> omega) | simp)) | (refine Below.alloc ?_ (by first | omega | (simp <;> omega) | simp) _) | (apply below_drewN) | (apply below_drew) | (refine Below.setCell ?_ (by first | omega | (simp <;> omega) | simp) _))), ?_, (by repeat (first | assumption | exact Below.refl _ _ | (refine below_chain ?_ (by assumption) (by first | omega | (simp <;> omega) | simp)) | (refine Below.alloc ?_ (by first | omega | (simp <;> omega) | simp) _) | (apply below_drewN) | (apply below_drew) | (refine Below.setCell ?_ (by first | omega | (simp <;> omega) | simp) _)))⟩
    have := Cell2.new (w.alloc (.cells #[.int .i64 (N : Int), .slice p m c, .int .i64 (N : Int), .slice (some ⟨g, 0, none⟩) K K, .int .i64 D] 55)) 0 0 27
    simpa using this
  · intro V hV
    rw [← hbe, ← hRe]
    obtain ⟨h5, hC, hBV⟩ := hV
    have HV := Lib.hid (And.intro hC hBV)
    have hRw : w.heap.size ≤ R := by omega
    obtain ⟨⟨m0, m1, m2, m3, m4⟩, -⟩ := h5
    clear hC hBV hbe hRe
    go_upto_region 2 with ((go_at_call 48; (with_reducible refine ((c1 _ ?_ ?_).out).mono ?_); (focus ((exact H.out.1.below HV.out.2); done)); (focus ((exact H.out.2.below HV.out.2); done)); rintro e wa ⟨rfl, hb_wa⟩; have hs_wa := hb_wa.size; (try simp at hs_wa)))
    obtain ⟨q1, q2, q3, q4⟩ := HV.out.1.below hb_wa
    have hBa := HV.out.2.trans (hb_wa.mono HV.out.2.size)
    have hRl := World.block_lt_of_cell? wa _ q1
    clear m0 m1 m2 m3 m4 c1
    have hal : Below wa.heap.size wa (wa.alloc (.cells #[.int .i64 sx, .int .i64 sy] 27)) := (Below.refl _ _).alloc (Nat.le_refl _) _
    have hX := Cell2.new wa sx sy 27
    have k1 := cell_below_keep hal q1
    have k2 := cell_below_keep hal q2
    have k3 := frozen_below_kE hal q1 q3
    have k4 := frozen_below_kE hal q2 q4
    have hBV2 := hBa.trans (hal.mono hBa.size)
    obtain ⟨W, hW⟩ : ∃ V, V = wa.alloc (.cells #[.int .i64 sx, .int .i64 sy] 27) := ⟨_, rfl⟩
    obtain ⟨X, hXe⟩ : ∃ X, X = wa.heap.size := ⟨_, rfl⟩
    rw [← hW] at k1 k2 k3 k4 hBV2 hX ⊢
    rw [← hXe] at hX ⊢
    obtain ⟨x1, x2, -, -⟩ := hX
    clear hW hal q1 q2 q3 q4 hXe
    go_wp2_with (go_at_call 28; (with_reducible refine ((c4 _).out).mono ?_); rintro e w2 ⟨rfl, hb_w2⟩; have r1 := cell_below_keep hb_w2 k1; have r2 := cell_below_keep hb_w2 k2; have r3 := frozen_below_kE hb_w2 k1 k3; have r4 := frozen_below_kE hb_w2 k2 k4)
    have hB9 : Below w.heap.size w w2 := hBV2.trans (hb_w2.mono hBV2.size)
    refine bodyPost_ret (v := .tuple #[.agg #[.int .i64 TX, .int .i64 TY], .bool true]) (by simp [results, Tryz.results24, go_sem, r1, r2]) rfl ⟨rfl, (hB9.setCell hRw _).setCell hRw _⟩
set_option maxHeartbeats 4000000 in
theorem iSpreadFree_yes (N k : Nat) (p : Option Addr) (c m : Nat) (rs : List Rn) (r : Rn) (w : World) (h : Runs w p rs) (hw : nWhole (N : Int) rs = true) (hm : rs.length = m) (hr : rs[k]? = some r) :
    Calls Tryz.prog 7 #[.int .i64 N, .slice p m c, .int .i64 k] w fun e w' => e = .returned (.tuple #[.agg #[.int .i64 (sfT N rs r), .int .i64 (sfL N rs r)], .bool true]) ∧ Below w.heap.size w w' := by
  have c1 := fun w h => Lib.hid (iSpreads_yes N (N * N) p c m rs w h hw hm rfl)
  have c2 := fun g w h hR => Lib.hid (iFreeM_yes N (N * N) k g p c m rs r w h hR hw rfl hm hr)
  obtain ⟨x, hx⟩ : ∃ x, sfT N rs r = x := ⟨_, rfl⟩
  obtain ⟨y, hy⟩ : ∃ y, sfL N rs r = y := ⟨_, rfl⟩
  obtain ⟨D, hD⟩ : ∃ D, trN N rs = D := ⟨_, rfl⟩
  obtain ⟨K, hK⟩ : ∃ K, N * N = K := ⟨_, rfl⟩
  rw [hx, hy] at c2 ⊢
  rw [hD] at c1 c2
  rw [hK] at c1 c2
  have H := Lib.hid h
  clear h hw hm hx hy hD hK hr
  go_enter Tryz.func7, Tryz.ntmps7
  go_wp2_with (first
    | ((go_at_call 23; (with_reducible refine ((c1 _ ?_).out).mono ?_); (focus ((exact H.out.below (by repeat (first | assumption | exact Below.refl _ _ | (refine below_chain ?_ (by assumption) (by first | omega | (simp <;> omega) | simp)) | (refine Below.alloc ?_ (by first | omega | (simp <;> omega) | simp) _) | (apply below_drewN) | (apply below_drew) | (refine Below.setCell ?_ (by first | omega | (simp <;> omega) | simp) _)))); done)); rintro e wa ⟨g, rfl, hg, ho, hb_wa⟩; have hs_wa := hb_wa.size; (try simp at hs_wa)); have HO := Lib.hid ho; clear ho)
    | ((go_at_call 24; (with_reducible refine ((c2 _ _ ?_ ?_).out).mono ?_); (focus ((exact HO.out); done)); (focus ((exact H.out.below (by repeat (first | assumption | exact Below.refl _ _ | (refine below_chain ?_ (by assumption) (by first | omega | (simp <;> omega) | simp)) | (refine Below.alloc ?_ (by first | omega | (simp <;> omega) | simp) _) | (apply below_drewN) | (apply below_drew) | (refine Below.setCell ?_ (by first | omega | (simp <;> omega) | simp) _)))); done)); rintro e wb ⟨rfl, hb_wb⟩; have hs_wb := hb_wb.size; (try simp at hs_wb)); have hBb : Below (w.alloc (.cells #[.int .i64 0, .int .i64 0] 27)).heap.size (w.alloc (.cells #[.int .i64 0, .int .i64 0] 27)) wb := (by repeat (first | assumption | exact Below.refl _ _ | (refine below_chain ?_ (by assumption) (by first | omega | (simp <;> omega) | simp)) | (refine Below.alloc ?_ (by first | omega | (simp <;> omega) | simp) _) | (apply below_drewN) | (apply below_drew) | (refine Below.setCell ?_ (by first | omega | (simp <;> omega) | simp) _))); obtain ⟨q1, q2, q3, q4⟩ := res_cell hBb))
  refine bodyPost_ret (v := .tuple #[.agg #[.int .i64 x, .int .i64 y], .bool true]) (by simp [results, Tryz.results7, go_sem, q1, q2]) rfl ⟨rfl, (by repeat (first | assumption | exact Below.refl _ _ | (refine below_chain ?_ (by assumption) (by first | omega | (simp <;> omega) | simp)) | (refine Below.alloc ?_ (by first | omega | (simp <;> omega) | simp) _) | (apply below_drewN) | (apply below_drew) | (refine Below.setCell ?_ (by first | omega | (simp <;> omega) | simp) _)))⟩
theorem iSpreadFree_no (n k : Int) (p : Option Addr) (c m : Nat) (rs : List Rn) (w : World) (h : Runs w p rs) (hm : rs.length = m) (hl : m ≤ 4000000000000000000) (hno : ¬ (nWhole n rs = true ∧ 0 ≤ k ∧ k < m)) :
    Calls Tryz.prog 7 #[.int .i64 n, .slice p m c, .int .i64 k] w fun e w' => e = .returned (.tuple #[.agg #[.int .i64 0, .int .i64 0], .bool false]) ∧ Below w.heap.size w w' := by
  have H := Lib.hid h
  cases hw : nWhole n rs
  · have c1 := fun w h => Lib.hid (iSpreads_no n p c m rs w h hm hl hw)
    have c2 := fun w => Lib.hid (iFreeM_no k none 0 0 0 0 0 (.slice none 0 0) w (by omega))
    clear h hm hl hno hw
    go_enter Tryz.func7, Tryz.ntmps7
    go_wp2_with (first
      | (go_at_call 23; (with_reducible refine ((c1 _ ?_).out).mono ?_); (focus ((exact H.out.below (by repeat (first | assumption | exact Below.refl _ _ | (refine below_chain ?_ (by assumption) (by first | omega | (simp <;> omega) | simp)) | (refine Below.alloc ?_ (by first | omega | (simp <;> omega) | simp) _) | (apply below_drewN) | (apply below_drew) | (refine Below.setCell ?_ (by first | omega | (simp <;> omega) | simp) _)))); done)); rintro e wa ⟨rfl, hb_wa⟩; have hs_wa := hb_wa.size; (try simp at hs_wa))
      | ((go_at_call 24; (with_reducible refine ((c2 _).out).mono ?_); rintro e wb ⟨rfl, hb_wb⟩; have hs_wb := hb_wb.size; (try simp at hs_wb)); have hBb : Below (w.alloc (.cells #[.int .i64 0, .int .i64 0] 27)).heap.size (w.alloc (.cells #[.int .i64 0, .int .i64 0] 27)) wb := (by repeat (first | assumption | exact Below.refl _ _ | (refine below_chain ?_ (by assumption) (by first | omega | (simp <;> omega) | simp)) | (refine Below.alloc ?_ (by first | omega | (simp <;> omega) | simp) _) | (apply below_drewN) | (apply below_drew) | (refine Below.setCell ?_ (by first | omega | (simp <;> omega) | simp) _))); obtain ⟨q1, q2, q3, q4⟩ := res_cell hBb))
    refine bodyPost_ret (v := .tuple #[.agg #[.int .i64 0, .int .i64 0], .bool false]) (by simp [results, Tryz.results7, go_sem, q1, q2]) rfl ⟨rfl, (by repeat (first | assumption | exact Below.refl _ _ | (refine below_chain ?_ (by assumption) (by first | omega | (simp <;> omega) | simp)) | (refine Below.alloc ?_ (by first | omega | (simp <;> omega) | simp) _) | (apply below_drewN) | (apply below_drew) | (refine Below.setCell ?_ (by first | omega | (simp <;> omega) | simp) _)))⟩
  · obtain ⟨N, M, rfl, hNM⟩ := whole_nat hw
    have c1 := fun w h => Lib.hid (iSpreads_yes N (N * N) p c m rs w h hw hm rfl)
    have c2 := fun n2 v3 d w => Lib.hid (iFreeM_no k p c m N n2 d v3 w (fun hc => hno ⟨hw, hc⟩))
    obtain ⟨D, hD⟩ : ∃ D, trN N rs = D := ⟨_, rfl⟩
    obtain ⟨K, hK⟩ : ∃ K, N * N = K := ⟨_, rfl⟩
    rw [hD] at c1
    rw [hK] at c1
    clear h hm hl hno hw hNM hD hK
    go_enter Tryz.func7, Tryz.ntmps7
    go_wp2_with (first
      | (go_at_call 23; (with_reducible refine ((c1 _ ?_).out).mono ?_); (focus ((exact H.out.below (by repeat (first | assumption | exact Below.refl _ _ | (refine below_chain ?_ (by assumption) (by first | omega | (simp <;> omega) | simp)) | (refine Below.alloc ?_ (by first | omega | (simp <;> omega) | simp) _) | (apply below_drewN) | (apply below_drew) | (refine Below.setCell ?_ (by first | omega | (simp <;> omega) | simp) _)))); done)); rintro e wa ⟨g, rfl, hg, ho, hb_wa⟩; have hs_wa := hb_wa.size; (try simp at hs_wa))
      | ((go_at_call 24; (with_reducible refine ((c2 _ _ _ _).out).mono ?_); rintro e wb ⟨rfl, hb_wb⟩; have hs_wb := hb_wb.size; (try simp at hs_wb)); have hBb : Below (w.alloc (.cells #[.int .i64 0, .int .i64 0] 27)).heap.size (w.alloc (.cells #[.int .i64 0, .int .i64 0] 27)) wb := (by repeat (first | assumption | exact Below.refl _ _ | (refine below_chain ?_ (by assumption) (by first | omega | (simp <;> omega) | simp)) | (refine Below.alloc ?_ (by first | omega | (simp <;> omega) | simp) _) | (apply below_drewN) | (apply below_drew) | (refine Below.setCell ?_ (by first | omega | (simp <;> omega) | simp) _))); obtain ⟨q1, q2, q3, q4⟩ := res_cell hBb))
    refine bodyPost_ret (v := .tuple #[.agg #[.int .i64 0, .int .i64 0], .bool false]) (by simp [results, Tryz.results7, go_sem, q1, q2]) rfl ⟨rfl, (by repeat (first | assumption | exact Below.refl _ _ | (refine below_chain ?_ (by assumption) (by first | omega | (simp <;> omega) | simp)) | (refine Below.alloc ?_ (by first | omega | (simp <;> omega) | simp) _) | (apply below_drewN) | (apply below_drew) | (refine Below.setCell ?_ (by first | omega | (simp <;> omega) | simp) _)))⟩
end Go.Proofs.YtenllemaccacgaaGreatDoor
