/-
  The reference model's spread of two nodes, of a run, and what is free of a run.
-/
import Derived.Test.YtenllemaccacgaaGreatDoorRb
import Derived.Test.YtenllemaccacgaaGreatDoorRm
import Derived.Test.YtenllemaccacgaaGreatDoorEgz
namespace Go.Proofs.YtenllemaccacgaaGreatDoor
open Go.RowKit
set_option linter.unusedVariables false

/-- a result that holds no quotient -/
theorem res_done {w wa : World} (hB : Below w.heap.size w wa) (q1 : wa.cell? ⟨w.heap.size, 0, none⟩ = some (.int .i64 0)) (q2 : wa.cell? ⟨w.heap.size, 1, none⟩ = some (.int .i64 0)) (T : TypeId) :
    (((wa.setCell ⟨w.heap.size, 0, none⟩ (.int .i64 0)).setCell ⟨w.heap.size, 1, none⟩ (.int .i64 0)).alloc (.cells #[.int .i64 0, .int .i64 0] T)).cell? ⟨w.heap.size, 0, none⟩ = some (.int .i64 0) ∧
    (((wa.setCell ⟨w.heap.size, 0, none⟩ (.int .i64 0)).setCell ⟨w.heap.size, 1, none⟩ (.int .i64 0)).alloc (.cells #[.int .i64 0, .int .i64 0] T)).cell? ⟨w.heap.size, 1, none⟩ = some (.int .i64 0) ∧
    Below w.heap.size w (((wa.setCell ⟨w.heap.size, 0, none⟩ (.int .i64 0)).setCell ⟨w.heap.size, 1, none⟩ (.int .i64 0)).alloc (.cells #[.int .i64 0, .int .i64 0] T)) :=
  ⟨cell_below_keep ((Below.refl _ _).alloc (Nat.le_refl _) _) (by simp [go_sem, q1]), cell_below_keep ((Below.refl _ _).alloc (Nat.le_refl _) _) (by simp [go_sem, q2]), ((hB.setCell (Nat.le_refl _) _).setCell (Nat.le_refl _) _).alloc (by have := hB.size; simp; omega) _⟩
theorem sCut_at (N n c j : Nat) (p : Option Addr) (L : List (List Int)) (w : World) (h : GRead w p L) (hs : Sq N L) (hN : N = n + 1) (h5 : N ≤ 6) (hj : j < N) :
    Calls Tryz.prog 72 #[.slice p N c, .int .i64 j] w fun e w' => ∃ g d, e = .returned (.slice (some ⟨g, 0, none⟩) n d) ∧ GRead w' (some ⟨g, 0, none⟩) (cutK L j) ∧ Below w.heap.size w w' := by
  subst hN; exact sCut n c j p L w h hs h5 hj
theorem max_lt {i j : Nat} (h : i < j) : max (i : Int) (j : Int) = (j : Int) ∧ min (i : Int) (j : Int) = (i : Int) := by omega
theorem det_cuts {N n lo hi : Nat} {rs : List Rn} (hn : nOk (N : Int) rs = true) (hN : N = n + 2) (h1 : lo < hi) (h2 : hi < N) : det n (ent (cutK (cutK (mkL N (lap rs)) hi) lo)) = spN N rs lo hi := by
  subst hN
  rw [← det_spN (nOk_in hn) h1 h2]
  have s1 : Sq (n + 1) (cutK (mkL (n + 2) (lap rs)) hi) := cutK_sq mkL_sq h2
  refine det_congr (fun i j hi' hj' => ?_)
  have a1 : skip lo i < n + 1 := skip_lt hi' (by omega)
  have a2 : skip lo j < n + 1 := skip_lt hj' (by omega)
  have b1 : skip hi (skip lo i) < n + 2 := skip_lt a1 h2
  have b2 : skip hi (skip lo j) < n + 2 := skip_lt a2 h2
  rw [ent_cutK s1 (by omega) hi', ent_cutK mkL_sq h2 a1, ent_mkL b1 b2]
  rfl
theorem small_cuts {N n lo hi : Nat} {rs : List Rn} (hn : nOk (N : Int) rs = true) (hN : N = n + 2) (h1 : lo < hi) (h2 : hi < N) : SmE n 1000 (ent (cutK (cutK (mkL N (lap rs)) hi) lo)) := by
  subst hN
  have s1 : Sq (n + 1) (cutK (mkL (n + 2) (lap rs)) hi) := cutK_sq mkL_sq h2
  intro i j hi' hj'
  have a1 : skip lo i < n + 1 := skip_lt hi' (by omega)
  have a2 : skip lo j < n + 1 := skip_lt hj' (by omega)
  have b1 : skip hi (skip lo i) < n + 2 := skip_lt a1 h2
  have b2 : skip hi (skip lo j) < n + 2 := skip_lt a2 h2
  rw [ent_cutK s1 (by omega) hi', ent_cutK mkL_sq h2 a1, ent_mkL b1 b2]
  have := lap_low (rs := rs) (fun x hx => ⟨(ok_runs hn x hx).1, (ok_runs hn x hx).2.1, (ok_runs hn x hx).2.2.1⟩) (nOk_true hn).2.2.1 (skip hi (skip lo i)) (skip hi (skip lo j))
  omega
theorem trN_tree {N n : Nat} {rs : List Rn} (hn : nOk (N : Int) rs = true) (hN : N = n + 1) : det n (lap0 rs) = trN N rs := by
  subst hN; exact (trN_det (nOk_in hn)).symm
set_option maxHeartbeats 4000000 in
set_option maxRecDepth 100000 in
theorem sSpreadOf_yes (N i j : Nat) (p : Option Addr) (c m : Nat) (rs : List Rn) (w : World) (h : Runs w p rs) (hw : nWhole (N : Int) rs = true) (hm : rs.length = m) (hi : i < N) (hj : j < N) :
    Calls Tryz.prog 51 #[.int .i64 N, .slice p m c, .int .i64 i, .int .i64 j] w fun e w' => e = .returned (.tuple #[.agg #[.int .i64 (sprT N rs i j), .int .i64 (sprL N rs i j)], .bool true]) ∧ Below w.heap.size w w' := by
  have hn := whole_nok hw
  have hN2 : 2 ≤ N := by have := (nOk_true hn).1; omega
  have hN6 : N ≤ 6 := by have := (nOk_true hn).2.1; omega
  have hl : m ≤ 12 := by rw [← hm]; exact (nOk_true hn).2.2.1
  have c1 := fun w h => Lib.hid (sWhole_m (p := p) (c := c) w hm h (by omega) hw)
  have c2 := fun w => Lib.hid (nIn i 0 ((N : Int) - 1) true w (by simp; omega))
  have c3 := fun w => Lib.hid (nIn j 0 ((N : Int) - 1) true w (by simp; omega))
  obtain ⟨n, hNn⟩ : ∃ n, N = n + 2 := ⟨N - 2, by omega⟩
  have c4 := fun w h => Lib.hid (sFull N p c m rs w h hn hm)
  have c8 := fun w h => Lib.hid (by have := sTrees_yes N (n + 1) p c m rs w h hn hm hNn; rw [trN_tree hn hNn] at this; exact this)
  have hq := spr_of (i := i) (j := j) hw hi hj
  have H := Lib.hid h
  by_cases hij : i = j
  · have hij' : (i : Int) = (j : Int) := by omega
    have hs := spr_self (i := i) hw
    subst hij
    rw [hs.1, hs.2]
    clear h hm hw hn hq c4 c8 hs hNn c3
    go_enter Tryz.func51, Tryz.ntmps51
    go_wp2_with (first | ((go_at_call 34; (with_reducible refine ((c1 _ ?_).out).mono ?_); (focus ((exact H.out.below (by repeat (first | assumption | exact Below.refl _ _ | (refine below_chain ?_ (by assumption) (by first | omega | (simp <;> omega) | simp)) | (refine Below.alloc ?_ (by first | omega | (simp <;> omega) | simp) _) | (apply below_drewN) | (apply below_drew) | (refine Below.setCell ?_ (by first | omega | (simp <;> omega) | simp) _)))); done)); rintro e wa ⟨rfl, hb_wa⟩; have hs_wa := hb_wa.size; (try simp at hs_wa)); obtain ⟨q1, q2, q3, q4⟩ := res_cell hb_wa) | (go_at_call 50; (with_reducible refine ((c2 _).out).mono ?_); rintro e w' ⟨rfl, rfl⟩))
    refine bodyPost_ret (v := .tuple #[.agg #[.int .i64 0, .int .i64 1], .bool true]) (by simp [results, Tryz.results51, go_sem, q1, q2]) rfl ⟨rfl, (by repeat (first | assumption | exact Below.refl _ _ | (refine below_chain ?_ (by assumption) (by first | omega | (simp <;> omega) | simp)) | (refine Below.alloc ?_ (by first | omega | (simp <;> omega) | simp) _) | (apply below_drewN) | (apply below_drew) | (refine Below.setCell ?_ (by first | omega | (simp <;> omega) | simp) _)))⟩
  · obtain ⟨lo, hi', hlh, hlo, hhi, he⟩ : ∃ lo hi' : Nat, lo < hi' ∧ hi' < N ∧ ((if i < j then (j : Int) else (i : Int)) = (hi' : Int) ∧ (if j < i then (j : Int) else (i : Int)) = (lo : Int)) ∧ spN N rs lo hi' = spN N rs i j := by
      rcases Nat.lt_or_ge i j with h | h
      · exact ⟨i, j, h, hj, ⟨by rw [if_pos (by omega)], by rw [if_neg (by omega)]⟩, rfl⟩
      · exact ⟨j, i, by omega, hi, ⟨by rw [if_neg (by omega)], by rw [if_pos (by omega)]⟩, spN_sym⟩
    have hde := det_cuts hn hNn hlh hlo
    rw [he] at hde
    have hsm := small_cuts hn hNn hlh hlo
    have s0 : Sq N (mkL N (lap rs)) := mkL_sq
    have s1 : Sq (n + 1) (cutK (mkL N (lap rs)) hi') := by rw [hNn] at s0 hlo ⊢; exact cutK_sq s0 hlo
    have s2 : Sq n (cutK (cutK (mkL N (lap rs)) hi') lo) := cutK_sq s1 (by omega)
    obtain ⟨L0, hL0⟩ : ∃ L, mkL N (lap rs) = L := ⟨_, rfl⟩
    rw [hL0] at hde hsm s0 s1 s2
    have c4 := fun w h => Lib.hid (by have := (c4 w h).out; rw [hL0] at this; exact this)
    have c5 := fun p c w h => Lib.hid (sCut_at N (n + 1) c hi' p L0 w h s0 hNn hN6 hlo)
    have c6 := fun p c w h => Lib.hid (sCut_at (n + 1) n c lo p (cutK L0 hi') w h s1 rfl (by omega) (by omega))
    have c7 := fun p c w h => Lib.hid (by have := sDet n c p (cutK (cutK L0 hi') lo) w h s2 (by omega) hsm; rw [hde] at this; exact this)
    have hij' : ¬ (i : Int) = (j : Int) := by omega
    obtain ⟨x, hx⟩ : ∃ x, sprT N rs i j = x := ⟨_, rfl⟩
    obtain ⟨y, hy⟩ : ∃ y, sprL N rs i j = y := ⟨_, rfl⟩
    rw [hx, hy] at hq ⊢
    obtain ⟨A, hA⟩ : ∃ A, spN N rs i j = A := ⟨_, rfl⟩
    obtain ⟨D, hD⟩ : ∃ D, trN N rs = D := ⟨_, rfl⟩
    rw [hA, hD] at hq
    rw [hA] at c7
    rw [hD] at c8
    have c9 := fun w => Lib.hid (by have := sof_any A D w; rw [hq.1, hq.2.1, hq.2.2] at this; exact this)
    obtain ⟨hhi, hlo'⟩ := hhi
    obtain ⟨n1, hn1⟩ : ∃ n1, n + 1 = n1 := ⟨_, rfl⟩
    rw [hn1] at c5 c6
    clear h hm hw hn hq hde hsm s0 s1 s2 hL0 hx hy hA hD he hNn hn1 hlh hlo
    go_enter Tryz.func51, Tryz.ntmps51
    go_wp2_with (first
      | (go_at_call 34; (with_reducible refine ((c1 _ ?_).out).mono ?_); (focus ((exact H.out.below (by repeat (first | assumption | exact Below.refl _ _ | (refine below_chain ?_ (by assumption) (by first | omega | (simp <;> omega) | simp)) | (refine Below.alloc ?_ (by first | omega | (simp <;> omega) | simp) _) | (apply below_drewN) | (apply below_drew) | (refine Below.setCell ?_ (by first | omega | (simp <;> omega) | simp) _)))); done)); rintro e wa ⟨rfl, hb_wa⟩; have hs_wa := hb_wa.size; (try simp at hs_wa))
      | (go_at_call 50; (with_reducible refine ((c2 _).out).mono ?_); rintro e w' ⟨rfl, rfl⟩) | (go_at_call 50; (with_reducible refine ((c3 _).out).mono ?_); rintro e w' ⟨rfl, rfl⟩)
      | ((go_at_call 73; (with_reducible refine ((c4 _ ?_).out).mono ?_); (focus ((exact H.out.below (by repeat (first | assumption | exact Below.refl _ _ | (refine below_chain ?_ (by assumption) (by first | omega | (simp <;> omega) | simp)) | (refine Below.alloc ?_ (by first | omega | (simp <;> omega) | simp) _) | (apply below_drewN) | (apply below_drew) | (refine Below.setCell ?_ (by first | omega | (simp <;> omega) | simp) _)))); done)); rintro e wf ⟨g0, cap0, bs, rfl, hg_wf, hb_wf⟩; have hs_wf := hb_wf.size; (try simp at hs_wf)); have HF := Lib.hid hg_wf; clear hg_wf)
      | ((go_at_call 72; (with_reducible refine ((c5 _ _ _ ?_).out).mono ?_); (focus ((exact HF.out.read); done)); rintro e wg ⟨g1, d1, rfl, hg_wg, hb_wg⟩; have hs_wg := hb_wg.size; (try simp at hs_wg)); have HG := Lib.hid hg_wg; clear hg_wg)
      | ((go_at_call 72; (with_reducible refine ((c6 _ _ _ ?_).out).mono ?_); (focus ((exact HG.out); done)); rintro e wh ⟨g2, d2, rfl, hg_wh, hb_wh⟩; have hs_wh := hb_wh.size; (try simp at hs_wh)); have HH := Lib.hid hg_wh; clear hg_wh)
      | (go_at_call 74; (with_reducible refine ((c7 _ _ _ ?_).out).mono ?_); (focus ((exact HH.out); done)); rintro e wd ⟨rfl, hb_wd⟩; have hs_wd := hb_wd.size; (try simp at hs_wd))
      | (go_at_call 75; (with_reducible refine ((c8 _ ?_).out).mono ?_); (focus ((exact H.out.below (by repeat (first | assumption | exact Below.refl _ _ | (refine below_chain ?_ (by assumption) (by first | omega | (simp <;> omega) | simp)) | (refine Below.alloc ?_ (by first | omega | (simp <;> omega) | simp) _) | (apply below_drewN) | (apply below_drew) | (refine Below.setCell ?_ (by first | omega | (simp <;> omega) | simp) _)))); done)); rintro e wt ⟨rfl, hb_wt⟩; have hs_wt := hb_wt.size; (try simp at hs_wt))
      | ((go_at_call 54; (with_reducible refine ((c9 _).out).mono ?_); rintro e wq ⟨rfl, hb_wq⟩; have hs_wq := hb_wq.size; (try simp at hs_wq)); have hBq : Below (w.alloc (.cells #[.int .i64 0, .int .i64 0] 27)).heap.size (w.alloc (.cells #[.int .i64 0, .int .i64 0] 27)) wq := (by repeat (first | assumption | exact Below.refl _ _ | (refine below_chain ?_ (by assumption) (by first | omega | (simp <;> omega) | simp)) | (refine Below.alloc ?_ (by first | omega | (simp <;> omega) | simp) _) | (apply below_drewN) | (apply below_drew) | (refine Below.setCell ?_ (by first | omega | (simp <;> omega) | simp) _))); obtain ⟨q1, q2, q3, q4⟩ := res_cell hBq))
    refine bodyPost_ret (v := .tuple #[.agg #[.int .i64 x, .int .i64 y], .bool true]) (by simp [results, Tryz.results51, go_sem, q1, q2]) rfl ⟨rfl, (by repeat (first | assumption | exact Below.refl _ _ | (refine below_chain ?_ (by assumption) (by first | omega | (simp <;> omega) | simp)) | (refine Below.alloc ?_ (by first | omega | (simp <;> omega) | simp) _) | (apply below_drewN) | (apply below_drew) | (refine Below.setCell ?_ (by first | omega | (simp <;> omega) | simp) _)))⟩
theorem sSpreadOf_no (n i j : Int) (p : Option Addr) (c m : Nat) (rs : List Rn) (w : World) (h : Runs w p rs) (hm : rs.length = m) (hl : m ≤ 4000000000000000000) (hno : ¬ (nWhole n rs = true ∧ (0 ≤ i ∧ i < n) ∧ (0 ≤ j ∧ j < n))) :
    Calls Tryz.prog 51 #[.int .i64 n, .slice p m c, .int .i64 i, .int .i64 j] w fun e w' => e = .returned (.tuple #[.agg #[.int .i64 0, .int .i64 0], .bool false]) ∧ Below w.heap.size w w' := by
  have H := Lib.hid h
  cases hw : nWhole n rs
  · have c1 := fun w h => Lib.hid (sWhole_m (p := p) (c := c) w hm h hl hw)
    clear h hm hl hno hw
    go_enter Tryz.func51, Tryz.ntmps51
    go_wp2_with ((go_at_call 34; (with_reducible refine ((c1 _ ?_).out).mono ?_); (focus ((exact H.out.below (by repeat (first | assumption | exact Below.refl _ _ | (refine below_chain ?_ (by assumption) (by first | omega | (simp <;> omega) | simp)) | (refine Below.alloc ?_ (by first | omega | (simp <;> omega) | simp) _) | (apply below_drewN) | (apply below_drew) | (refine Below.setCell ?_ (by first | omega | (simp <;> omega) | simp) _)))); done)); rintro e wa ⟨rfl, hb_wa⟩; have hs_wa := hb_wa.size; (try simp at hs_wa)); obtain ⟨q1, q2, q3, q4⟩ := res_cell hb_wa)
    refine bodyPost_ret (v := .tuple #[.agg #[.int .i64 0, .int .i64 0], .bool false]) (by simp [results, Tryz.results51, go_sem, q1, q2]) rfl ⟨rfl, (by repeat (first | assumption | exact Below.refl _ _ | (refine below_chain ?_ (by assumption) (by first | omega | (simp <;> omega) | simp)) | (refine Below.alloc ?_ (by first | omega | (simp <;> omega) | simp) _) | (apply below_drewN) | (apply below_drew) | (refine Below.setCell ?_ (by first | omega | (simp <;> omega) | simp) _)))⟩
  · have c1 := fun w h => Lib.hid (sWhole_m (p := p) (c := c) w hm h hl hw)
    obtain ⟨N, M, rfl, hNM⟩ := whole_nat hw
    have hN6 := (nOk_true (whole_nok hw)).2.1
    by_cases hi : 0 ≤ i ∧ i < (N : Int)
    · have hj : ¬ (0 ≤ j ∧ j < (N : Int)) := fun hj => hno ⟨hw, hi, hj⟩
      have c2 := fun w => Lib.hid (nIn i 0 ((N : Int) - 1) true w (by simp; omega))
      have c3 := fun w => Lib.hid (nIn j 0 ((N : Int) - 1) false w (decide_eq_false (fun hc => hj ⟨hc.1, by omega⟩)))
      clear h hm hl hno hw hNM hj
      go_enter Tryz.func51, Tryz.ntmps51
      go_wp2_with (first | ((go_at_call 34; (with_reducible refine ((c1 _ ?_).out).mono ?_); (focus ((exact H.out.below (by repeat (first | assumption | exact Below.refl _ _ | (refine below_chain ?_ (by assumption) (by first | omega | (simp <;> omega) | simp)) | (refine Below.alloc ?_ (by first | omega | (simp <;> omega) | simp) _) | (apply below_drewN) | (apply below_drew) | (refine Below.setCell ?_ (by first | omega | (simp <;> omega) | simp) _)))); done)); rintro e wa ⟨rfl, hb_wa⟩; have hs_wa := hb_wa.size; (try simp at hs_wa)); obtain ⟨q1, q2, q3, q4⟩ := res_cell hb_wa) | (go_at_call 50; (with_reducible refine ((c2 _).out).mono ?_); rintro e w' ⟨rfl, rfl⟩) | (go_at_call 50; (with_reducible refine ((c3 _).out).mono ?_); rintro e w' ⟨rfl, rfl⟩))
      refine bodyPost_ret (v := .tuple #[.agg #[.int .i64 0, .int .i64 0], .bool false]) (by simp [results, Tryz.results51, go_sem, q1, q2]) rfl ⟨rfl, (by repeat (first | assumption | exact Below.refl _ _ | (refine below_chain ?_ (by assumption) (by first | omega | (simp <;> omega) | simp)) | (refine Below.alloc ?_ (by first | omega | (simp <;> omega) | simp) _) | (apply below_drewN) | (apply below_drew) | (refine Below.setCell ?_ (by first | omega | (simp <;> omega) | simp) _)))⟩
    · have c2 := fun w => Lib.hid (nIn i 0 ((N : Int) - 1) false w (decide_eq_false (fun hc => hi ⟨hc.1, by omega⟩)))
      clear h hm hl hno hw hNM hi
      go_enter Tryz.func51, Tryz.ntmps51
      go_wp2_with (first | ((go_at_call 34; (with_reducible refine ((c1 _ ?_).out).mono ?_); (focus ((exact H.out.below (by repeat (first | assumption | exact Below.refl _ _ | (refine below_chain ?_ (by assumption) (by first | omega | (simp <;> omega) | simp)) | (refine Below.alloc ?_ (by first | omega | (simp <;> omega) | simp) _) | (apply below_drewN) | (apply below_drew) | (refine Below.setCell ?_ (by first | omega | (simp <;> omega) | simp) _)))); done)); rintro e wa ⟨rfl, hb_wa⟩; have hs_wa := hb_wa.size; (try simp at hs_wa)); obtain ⟨q1, q2, q3, q4⟩ := res_cell hb_wa) | (go_at_call 50; (with_reducible refine ((c2 _).out).mono ?_); rintro e w' ⟨rfl, rfl⟩))
      refine bodyPost_ret (v := .tuple #[.agg #[.int .i64 0, .int .i64 0], .bool false]) (by simp [results, Tryz.results51, go_sem, q1, q2]) rfl ⟨rfl, (by repeat (first | assumption | exact Below.refl _ _ | (refine below_chain ?_ (by assumption) (by first | omega | (simp <;> omega) | simp)) | (refine Below.alloc ?_ (by first | omega | (simp <;> omega) | simp) _) | (apply below_drewN) | (apply below_drew) | (refine Below.setCell ?_ (by first | omega | (simp <;> omega) | simp) _)))⟩
theorem gen_exitR {Q : Exit → Act → World → Prop} {x : Exit} {a : Act} {W : World} (p : World → Prop) (h : p W) (k : ∀ W', p W' → Q x a W') : Q x a W := k W h
theorem ways_cellR {x y : Int} {V : World} {G : Prop} {P : Nat → World → Prop} (h1 : (∀ Y W, Cell2 W Y x y → V.heap.size ≤ Y → Below V.heap.size V W → P Y W) → G) (h2 : ∀ Y W, Cell2 W Y x y → V.heap.size ≤ Y → Below V.heap.size V W → P Y W) : G := h1 h2
theorem sValid_m {n : Int} {p : Option Addr} {c m : Nat} {rs : List Rn} {b : Bool} (w : World) (hm : rs.length = m) (h : Runs w p rs) (hl : m ≤ 4000000000000000000) (hb : nOk n rs = b) :
    Calls Tryz.prog 49 #[.int .i64 n, .slice p m c] w fun e w' => e = .returned (.bool b) ∧ Below w.heap.size w w' := by
  subst hm; exact sValid n p c rs b w h hl hb
set_option maxHeartbeats 4000000 in
set_option maxRecDepth 100000 in
theorem sSpreadRun_yes (N k : Nat) (p : Option Addr) (c m : Nat) (rs : List Rn) (r : Rn) (w : World) (h : Runs w p rs) (hw : nWhole (N : Int) rs = true) (hm : rs.length = m) (hr : rs[k]? = some r) :
    Calls Tryz.prog 25 #[.int .i64 N, .slice p m c, .int .i64 k] w fun e w' => e = .returned (.tuple #[.agg #[.int .i64 (srT N rs r), .int .i64 (srL N rs r)], .bool true]) ∧ Below w.heap.size w w' := by
  have hn := whole_nok hw
  have hl : m ≤ 12 := by rw [← hm]; exact (nOk_true hn).2.2.1
  have hkm : k < m := by rw [← hm]; exact (List.getElem?_eq_some_iff.1 hr).1
  have hkm' : (k : Int) < (m : Int) := by omega
  obtain ⟨e1', e2', e3', e4', e5'⟩ := run_ends hn hr
  have c1 := fun w h => Lib.hid (sValid_m (p := p) (c := c) w hm h (by omega) hn)
  have c2 := fun w => Lib.hid (nIn k 0 ((m : Int) - 1) true w (by simp; omega))
  have c3 := fun w h => Lib.hid (sSpreadOf_yes N r.f.toNat r.t.toNat p c m rs w h hw hm e1' e2')
  have hv := (sr_times hw hr).1
  obtain ⟨B, o, r', rfl, hr', hB, e1, e2, e3, e4⟩ := h.at (i := k) (by omega)
  obtain rfl : r = r' := by rw [hr] at hr'; cases hr'; rfl
  obtain ⟨sx, hsx⟩ : ∃ x, sprT N rs r.f.toNat r.t.toNat = x := ⟨_, rfl⟩
  obtain ⟨sy, hsy⟩ : ∃ x, sprL N rs r.f.toNat r.t.toNat = x := ⟨_, rfl⟩
  rw [hsx, hsy] at c3 hv
  rw [e4', e5'] at c3
  obtain ⟨X, hX⟩ : ∃ X, srT N rs r = X := ⟨_, rfl⟩
  obtain ⟨Y, hY⟩ : ∃ Y, srL N rs r = Y := ⟨_, rfl⟩
  rw [hX, hY] at hv ⊢
  have c4 := fun w => Lib.hid (by have := sTimes_any sx sy r.g 1 w; rw [hv.1, hv.2.1, hv.2.2] at this; exact this)
  have H := Lib.hid h
  clear h hw hn hm hr hr' hv hsx hsy hX hY e3 e1' e2' e3' e4' e5'
  go_enter Tryz.func25, Tryz.ntmps25
  go_upto_region 3 with (first
    | ((go_at_call 49; (with_reducible refine ((c1 _ ?_).out).mono ?_); (focus ((exact H.out.below (by repeat (first | assumption | exact Below.refl _ _ | (refine below_chain ?_ (by assumption) (by first | omega | (simp <;> omega) | simp)) | (refine Below.alloc ?_ (by first | omega | (simp <;> omega) | simp) _) | (apply below_drewN) | (apply below_drew) | (refine Below.setCell ?_ (by first | omega | (simp <;> omega) | simp) _)))); done)); rintro e wa ⟨rfl, hb_wa⟩; have hs_wa := hb_wa.size; (try simp at hs_wa)); obtain ⟨q1, q2, q3, q4⟩ := res_cell hb_wa)
    | (go_at_call 50; (with_reducible refine ((c2 _).out).mono ?_); rintro e w' ⟨rfl, rfl⟩))
  have hBa : Below w.heap.size w wa := (by repeat (first | assumption | exact Below.refl _ _ | (refine below_chain ?_ (by assumption) (by first | omega | (simp <;> omega) | simp)) | (refine Below.alloc ?_ (by first | omega | (simp <;> omega) | simp) _) | (apply below_drewN) | (apply below_drew) | (refine Below.setCell ?_ (by first | omega | (simp <;> omega) | simp) _)))
  have d1 := cell_below_keep hBa e1
  have d2 := cell_below_keep hBa e2
  have d4 := cell_below_keep hBa e4
  have hsa := World.block_lt_of_cell? wa _ q1
  have HQ := Lib.hid (And.intro q1 (And.intro q2 (And.intro q3 q4)))
  have HA := Lib.hid (And.intro hBa d4)
  have hBl := World.block_lt_of_cell? wa _ d1
  clear c1 c2 hb_wa hBa q1 q2 q3 q4 e1 e2 e4
  apply ways_cellR (x := sx) (y := sy) (V := wa)
  · intro REST
    go_region_held3 (fun W => W.cell? ⟨B, o + k * 4, none⟩ = some (.int .i64 r.f) ∧ W.cell? ⟨B, o + k * 4 + 1, none⟩ = some (.int .i64 r.t)) (first | (go_keep; done) | (refine ⟨?_, ?_⟩ <;> (first | ((with_reducible refine cell_below_keep (by with_reducible assumption) ?_); with_reducible assumption) | ((with_reducible refine cell_set_keep _ ?_ ?_); (focus (dsimp only; omega)); (with_reducible refine cell_set_keep _ ?_ ?_); (focus (dsimp only; omega)); with_reducible assumption)))) (first | (go_at_call 51; (with_reducible refine ((c3 _ ?_).out).mono ?_); (focus (exact (H.out.below HA.out.1).below (by repeat (first | assumption | exact Below.refl _ _ | (refine below_chain ?_ (by assumption) (by first | omega | (simp <;> omega) | simp)) | (refine Below.alloc ?_ (by first | omega | (simp <;> omega) | simp) _) | (apply below_drewN) | (apply below_drew) | (refine Below.setCell ?_ (by first | omega | (simp <;> omega) | simp) _))); done)); rintro e w1 ⟨rfl, hb_w1⟩; (first | (have hV1 : Below wa.heap.size wa w1 := (below_drew (Below.refl _ _)).trans hb_w1; have a0 := cell_below_keep hV1 d1; have b0 := World.block_lt_of_cell? _ _ a0; have a1 := cell_below_keep hV1 d2; have b1 := World.block_lt_of_cell? _ _ a1) | (have hV1 : Below wa.heap.size wa w1 := ((below_drew (Below.refl wa.heap.size wa)).alloc (Nat.le_refl _) (.cells #[.int .i64 0, .int .i64 0] 27)).trans (hb_w1.mono (by simp)); have a0 := cell_below_keep hV1 d1; have b0 := World.block_lt_of_cell? _ _ a0; have a1 := cell_below_keep hV1 d2; have b1 := World.block_lt_of_cell? _ _ a1; obtain ⟨y1, y2, y3, y4⟩ := (show Cell2 w1 wa.heap.size 0 0 from (Cell2.new wa.drew 0 0 27).below hb_w1)))))
    all_goals
      first
      | (have hYA := Cell2.new w1 sx sy 27; have hBA : Below wa.heap.size wa (w1.alloc (.cells #[.int .i64 sx, .int .i64 sy] 27)) := hV1.alloc hV1.size _; obtain ⟨Y, hYe⟩ : ∃ Y, w1.heap.size = Y := ⟨_, rfl⟩; rw [hYe] at hYA ⊢; refine gen_exitR (fun W => Cell2 W Y sx sy ∧ Below wa.heap.size wa W) ⟨hYA, hBA⟩ (fun W hW => ?_); exact REST Y W hW.1 (by have := hV1.size; omega) hW.2)
      | (have hYA := (show Cell2 w1 wa.heap.size 0 0 from ⟨y1, y2, y3, y4⟩).set sx sy; have hBA : Below wa.heap.size wa ((w1.setCell ⟨wa.heap.size, 0, none⟩ (.int .i64 sx)).setCell ⟨wa.heap.size, 1, none⟩ (.int .i64 sy)) := (hV1.setCell (Nat.le_refl _) _).setCell (Nat.le_refl _) _; refine gen_exitR (fun W => Cell2 W wa.heap.size sx sy ∧ Below wa.heap.size wa W) ⟨hYA, hBA⟩ (fun W hW => ?_); obtain ⟨hW1, hW2⟩ := hW; obtain ⟨Y, hYe⟩ : ∃ Y, wa.heap.size = Y := ⟨_, rfl⟩; rw [hYe] at hW1 ⊢; exact REST Y W hW1 (by have := hV1.size; omega) hW2)
  · intro R V hC hRa hBV
    obtain ⟨m6, m7, -, -⟩ := hC
    have hRw : ¬ R = w.heap.size := by omega
    have hwR : ¬ w.heap.size = R := by omega
    have hBw : ¬ B = w.heap.size := by omega
    have hwB : ¬ w.heap.size = B := by omega
    have hRl := World.block_lt_of_cell? V _ m6
    obtain ⟨q1, q2, q3, q4⟩ := HQ.out
    have m1 := cell_below_keep hBV q1
    have m2 := cell_below_keep hBV q2
    have m3 := frozen_below_kE hBV q1 q3
    have m4 := frozen_below_kE hBV q2 q4
    have m5 := cell_below_keep hBV HA.out.2
    have hB9 := HA.out.1.trans (hBV.mono HA.out.1.size)
    clear d1 d2 q1 q2 q3 q4 c3 hBV
    go_upto_region 6 with fail
    go_region_held3 (fun W => W.cell? ⟨R, 0, none⟩ = some (.int .i64 sx) ∧ W.cell? ⟨R, 1, none⟩ = some (.int .i64 sy) ∧ W.cell? ⟨B, o + k * 4 + 3, none⟩ = some (.int .i64 r.g)) (first | (go_keep; done) | (refine ⟨?_, ?_, ?_⟩ <;> (first | ((with_reducible refine cell_below_keep (by with_reducible assumption) ?_); with_reducible assumption) | ((with_reducible refine cell_set_keep _ ?_ ?_); (focus (dsimp only; omega)); (with_reducible refine cell_set_keep _ ?_ ?_); (focus (dsimp only; omega)); with_reducible assumption))))
      (first | (go_at_call 52; (with_reducible refine ((c4 _).out).mono ?_); rintro e w2 ⟨rfl, hb_w2⟩; have l1 := cell_below_keep hb_w2 (cell_drew_keep m6); have l2 := cell_below_keep hb_w2 (cell_drew_keep m7); have l3 := cell_below_keep hb_w2 (cell_drew_keep m5); have r1 := cell_below_keep hb_w2 (cell_drew_keep m1); have r2 := cell_below_keep hb_w2 (cell_drew_keep m2); have r3 := frozen_below_kE hb_w2 (cell_drew_keep m1) m3; have r4 := frozen_below_kE hb_w2 (cell_drew_keep m2) m4))
    have hBT : Below w.heap.size w w2 := hB9.trans (((below_drew (Below.refl _ _)).trans hb_w2).mono hB9.size)
    go_wp2_with fail
    refine bodyPost_ret (v := .tuple #[.agg #[.int .i64 X, .int .i64 Y], .bool true]) (by simp [results, Tryz.results25, go_sem, r1, r2]) rfl ⟨rfl, (hBT.setCell (Nat.le_refl _) _).setCell (Nat.le_refl _) _⟩
theorem sSpreadRun_no (n k : Int) (p : Option Addr) (c m : Nat) (rs : List Rn) (w : World) (h : Runs w p rs) (hm : rs.length = m) (hl : m ≤ 4000000000000000000) (hno : ¬ (nWhole n rs = true ∧ 0 ≤ k ∧ k < m)) :
    Calls Tryz.prog 25 #[.int .i64 n, .slice p m c, .int .i64 k] w fun e w' => e = .returned (.tuple #[.agg #[.int .i64 0, .int .i64 0], .bool false]) ∧ Below w.heap.size w w' := by
  have H := Lib.hid h
  cases hn : nOk n rs
  · have c1 := fun w h => Lib.hid (sValid_m (p := p) (c := c) w hm h hl hn)
    clear h hm hl hno hn
    go_enter Tryz.func25, Tryz.ntmps25
    go_wp2_with ((go_at_call 49; (with_reducible refine ((c1 _ ?_).out).mono ?_); (focus ((exact H.out.below (by repeat (first | assumption | exact Below.refl _ _ | (refine below_chain ?_ (by assumption) (by first | omega | (simp <;> omega) | simp)) | (refine Below.alloc ?_ (by first | omega | (simp <;> omega) | simp) _) | (apply below_drewN) | (apply below_drew) | (refine Below.setCell ?_ (by first | omega | (simp <;> omega) | simp) _)))); done)); rintro e wa ⟨rfl, hb_wa⟩; have hs_wa := hb_wa.size; (try simp at hs_wa)); obtain ⟨q1, q2, q3, q4⟩ := res_cell hb_wa)
    refine bodyPost_ret (v := .tuple #[.agg #[.int .i64 0, .int .i64 0], .bool false]) (by simp [results, Tryz.results25, go_sem, q1, q2]) rfl ⟨rfl, (by repeat (first | assumption | exact Below.refl _ _ | (refine below_chain ?_ (by assumption) (by first | omega | (simp <;> omega) | simp)) | (refine Below.alloc ?_ (by first | omega | (simp <;> omega) | simp) _) | (apply below_drewN) | (apply below_drew) | (refine Below.setCell ?_ (by first | omega | (simp <;> omega) | simp) _)))⟩
  · have c1 := fun w h => Lib.hid (sValid_m (p := p) (c := c) w hm h hl hn)
    have hl12 : m ≤ 12 := by rw [← hm]; exact (nOk_true hn).2.2.1
    by_cases hk : 0 ≤ k ∧ k < (m : Int)
    · have hw : ¬ nWhole n rs = true := fun hw => hno ⟨hw, hk⟩
      obtain ⟨j, r, rfl, hj, hr⟩ := hasRun_nat (rs := rs) (k := k) ⟨hk.1, by omega⟩
      have hjm : j < m := by omega
      have c2 := fun w => Lib.hid (nIn j 0 ((m : Int) - 1) true w (by simp; omega))
      have c3 := fun w h => Lib.hid (sSpreadOf_no n r.f r.t p c m rs w h hm hl (fun hc => hw hc.1))
      obtain ⟨B, o, r', rfl, hr', hB, e1, e2, e3, e4⟩ := h.at (i := j) (by omega)
      obtain rfl : r = r' := by rw [hr] at hr'; cases hr'; rfl
      have hkm' : (j : Int) < (m : Int) := by omega
      clear h hm hl hno hn hw hk hr hr' hj e3 e4
      go_enter Tryz.func25, Tryz.ntmps25
      go_upto_region 3 with (first
        | ((go_at_call 49; (with_reducible refine ((c1 _ ?_).out).mono ?_); (focus ((exact H.out.below (by repeat (first | assumption | exact Below.refl _ _ | (refine below_chain ?_ (by assumption) (by first | omega | (simp <;> omega) | simp)) | (refine Below.alloc ?_ (by first | omega | (simp <;> omega) | simp) _) | (apply below_drewN) | (apply below_drew) | (refine Below.setCell ?_ (by first | omega | (simp <;> omega) | simp) _)))); done)); rintro e wa ⟨rfl, hb_wa⟩; have hs_wa := hb_wa.size; (try simp at hs_wa)); obtain ⟨q1, q2, q3, q4⟩ := res_cell hb_wa)
        | (go_at_call 50; (with_reducible refine ((c2 _).out).mono ?_); rintro e w' ⟨rfl, rfl⟩))
      have hBa : Below w.heap.size w wa := (by repeat (first | assumption | exact Below.refl _ _ | (refine below_chain ?_ (by assumption) (by first | omega | (simp <;> omega) | simp)) | (refine Below.alloc ?_ (by first | omega | (simp <;> omega) | simp) _) | (apply below_drewN) | (apply below_drew) | (refine Below.setCell ?_ (by first | omega | (simp <;> omega) | simp) _)))
      have d1 := cell_below_keep hBa e1
      have d2 := cell_below_keep hBa e2
      have hsa := World.block_lt_of_cell? wa _ q1
      have HQ := Lib.hid (And.intro q1 (And.intro q2 (And.intro q3 q4)))
      have HA := Lib.hid hBa
      have hBl := World.block_lt_of_cell? wa _ d1
      clear c1 c2 hb_wa hBa q1 q2 q3 q4 e1 e2
      apply ways_cellR (x := 0) (y := 0) (V := wa)
      · intro REST
        go_region_held3 (fun W => W.cell? ⟨B, o + j * 4, none⟩ = some (.int .i64 r.f) ∧ W.cell? ⟨B, o + j * 4 + 1, none⟩ = some (.int .i64 r.t)) (first | (go_keep; done) | (refine ⟨?_, ?_⟩ <;> (first | ((with_reducible refine cell_below_keep (by with_reducible assumption) ?_); with_reducible assumption) | ((with_reducible refine cell_set_keep _ ?_ ?_); (focus (dsimp only; omega)); (with_reducible refine cell_set_keep _ ?_ ?_); (focus (dsimp only; omega)); with_reducible assumption)))) (first | (go_at_call 51; (with_reducible refine ((c3 _ ?_).out).mono ?_); (focus (exact (H.out.below HA.out).below (by repeat (first | assumption | exact Below.refl _ _ | (refine below_chain ?_ (by assumption) (by first | omega | (simp <;> omega) | simp)) | (refine Below.alloc ?_ (by first | omega | (simp <;> omega) | simp) _) | (apply below_drewN) | (apply below_drew) | (refine Below.setCell ?_ (by first | omega | (simp <;> omega) | simp) _))); done)); rintro e w1 ⟨rfl, hb_w1⟩; (first | (have hV1 : Below wa.heap.size wa w1 := (below_drew (Below.refl _ _)).trans hb_w1; have a0 := cell_below_keep hV1 d1; have b0 := World.block_lt_of_cell? _ _ a0; have a1 := cell_below_keep hV1 d2; have b1 := World.block_lt_of_cell? _ _ a1) | (have hV1 : Below wa.heap.size wa w1 := ((below_drew (Below.refl wa.heap.size wa)).alloc (Nat.le_refl _) (.cells #[.int .i64 0, .int .i64 0] 27)).trans (hb_w1.mono (by simp)); have a0 := cell_below_keep hV1 d1; have b0 := World.block_lt_of_cell? _ _ a0; have a1 := cell_below_keep hV1 d2; have b1 := World.block_lt_of_cell? _ _ a1; obtain ⟨y1, y2, y3, y4⟩ := (show Cell2 w1 wa.heap.size 0 0 from (Cell2.new wa.drew 0 0 27).below hb_w1)))))
        all_goals
          first
          | (have hYA := Cell2.new w1 0 0 27; have hBA : Below wa.heap.size wa (w1.alloc (.cells #[.int .i64 0, .int .i64 0] 27)) := hV1.alloc hV1.size _; obtain ⟨Y, hYe⟩ : ∃ Y, w1.heap.size = Y := ⟨_, rfl⟩; rw [hYe] at hYA ⊢; refine gen_exitR (fun W => Cell2 W Y 0 0 ∧ Below wa.heap.size wa W) ⟨hYA, hBA⟩ (fun W hW => ?_); exact REST Y W hW.1 (by have := hV1.size; omega) hW.2)
          | (have hYA := (show Cell2 w1 wa.heap.size 0 0 from ⟨y1, y2, y3, y4⟩).set 0 0; have hBA : Below wa.heap.size wa ((w1.setCell ⟨wa.heap.size, 0, none⟩ (.int .i64 0)).setCell ⟨wa.heap.size, 1, none⟩ (.int .i64 0)) := (hV1.setCell (Nat.le_refl _) _).setCell (Nat.le_refl _) _; refine gen_exitR (fun W => Cell2 W wa.heap.size 0 0 ∧ Below wa.heap.size wa W) ⟨hYA, hBA⟩ (fun W hW => ?_); obtain ⟨hW1, hW2⟩ := hW; obtain ⟨Y, hYe⟩ : ∃ Y, wa.heap.size = Y := ⟨_, rfl⟩; rw [hYe] at hW1 ⊢; exact REST Y W hW1 (by have := hV1.size; omega) hW2)
      · intro R V hC hRa hBV
        clear hC
        obtain ⟨q1, q2, q3, q4⟩ := HQ.out
        have m1 := cell_below_keep hBV q1
        have m2 := cell_below_keep hBV q2
        have m3 := frozen_below_kE hBV q1 q3
        have m4 := frozen_below_kE hBV q2 q4
        have hB9 := HA.out.trans (hBV.mono HA.out.size)
        clear d1 d2 q1 q2 q3 q4 c3 hBV
        go_wp2_with fail
        refine bodyPost_ret (v := .tuple #[.agg #[.int .i64 0, .int .i64 0], .bool false]) (by simp [results, Tryz.results25, go_sem, m1, m2]) rfl ⟨rfl, (hB9.setCell (Nat.le_refl _) _).setCell (Nat.le_refl _) _⟩
    · have c2 := fun w => Lib.hid (nIn k 0 ((m : Int) - 1) false w (decide_eq_false (fun hc => hk ⟨hc.1, by omega⟩)))
      clear h hm hl hno hn hk
      go_enter Tryz.func25, Tryz.ntmps25
      go_wp2_with (first
        | ((go_at_call 49; (with_reducible refine ((c1 _ ?_).out).mono ?_); (focus ((exact H.out.below (by repeat (first | assumption | exact Below.refl _ _ | (refine below_chain ?_ (by assumption) (by first | omega | (simp <;> omega) | simp)) | (refine Below.alloc ?_ (by first | omega | (simp <;> omega) | simp) _) | (apply below_drewN) | (apply below_drew) | (refine Below.setCell ?_ (by first | omega | (simp <;> omega) | simp) _)))); done)); rintro e wa ⟨rfl, hb_wa⟩; have hs_wa := hb_wa.size; (try simp at hs_wa)); obtain ⟨q1, q2, q3, q4⟩ := res_cell hb_wa)
        | (go_at_call 50; (with_reducible refine ((c2 _).out).mono ?_); rintro e w' ⟨rfl, rfl⟩))
      refine bodyPost_ret (v := .tuple #[.agg #[.int .i64 0, .int .i64 0], .bool false]) (by simp [results, Tryz.results25, go_sem, q1, q2]) rfl ⟨rfl, (by repeat (first | assumption | exact Below.refl _ _ | (refine below_chain ?_ (by assumption) (by first | omega | (simp <;> omega) | simp)) | (refine Below.alloc ?_ (by first | omega | (simp <;> omega) | simp) _) | (apply below_drewN) | (apply below_drew) | (refine Below.setCell ?_ (by first | omega | (simp <;> omega) | simp) _)))⟩
theorem sSpreadFree_no (n k : Int) (p : Option Addr) (c m : Nat) (rs : List Rn) (w : World) (h : Runs w p rs) (hm : rs.length = m) (hl : m ≤ 4000000000000000000) (hno : ¬ (nWhole n rs = true ∧ 0 ≤ k ∧ k < m)) :
    Calls Tryz.prog 8 #[.int .i64 n, .slice p m c, .int .i64 k] w fun e w' => e = .returned (.tuple #[.agg #[.int .i64 0, .int .i64 0], .bool false]) ∧ Below w.heap.size w w' := by
  have H := Lib.hid h
  have c1 := fun w h => Lib.hid (sSpreadRun_no n k p c m rs w h hm hl hno)
  clear h hm hno
  go_enter Tryz.func8, Tryz.ntmps8
  go_upto_region 3 with ((go_at_call 25; (with_reducible refine ((c1 _ ?_).out).mono ?_); (focus ((exact H.out.below (by repeat (first | assumption | exact Below.refl _ _ | (refine below_chain ?_ (by assumption) (by first | omega | (simp <;> omega) | simp)) | (refine Below.alloc ?_ (by first | omega | (simp <;> omega) | simp) _) | (apply below_drewN) | (apply below_drew) | (refine Below.setCell ?_ (by first | omega | (simp <;> omega) | simp) _)))); done)); rintro e wa ⟨rfl, hb_wa⟩; have hs_wa := hb_wa.size; (try simp at hs_wa)))
  obtain ⟨q1, q2, q3, q4⟩ := res_cell hb_wa
  have hBa : Below w.heap.size w wa := (by repeat (first | assumption | exact Below.refl _ _ | (refine below_chain ?_ (by assumption) (by first | omega | (simp <;> omega) | simp)) | (refine Below.alloc ?_ (by first | omega | (simp <;> omega) | simp) _) | (apply below_drewN) | (apply below_drew) | (refine Below.setCell ?_ (by first | omega | (simp <;> omega) | simp) _)))
  have hsa : w.heap.size < wa.heap.size := World.block_lt_of_cell? wa _ q1
  go_wp2_with fail
  obtain ⟨z1, z2, hB9⟩ := res_done hBa q1 q2 27
  obtain ⟨W, hW⟩ : ∃ W, W = ((wa.setCell ⟨w.heap.size, 0, none⟩ (.int .i64 0)).setCell ⟨w.heap.size, 1, none⟩ (.int .i64 0)).alloc (.cells #[.int .i64 0, .int .i64 0] 27) := ⟨_, rfl⟩
  rw [← hW] at hB9 z1 z2 ⊢
  refine bodyPost_ret (v := .tuple #[.agg #[.int .i64 0, .int .i64 0], .bool false]) (by simp [results, Tryz.results8, go_sem, z1, z2]) rfl ⟨rfl, hB9⟩
set_option maxHeartbeats 4000000 in
theorem sSpreadFree_yes (N k : Nat) (p : Option Addr) (c m : Nat) (rs : List Rn) (r : Rn) (w : World) (h : Runs w p rs) (hw : nWhole (N : Int) rs = true) (hm : rs.length = m) (hr : rs[k]? = some r) :
    Calls Tryz.prog 8 #[.int .i64 N, .slice p m c, .int .i64 k] w fun e w' => e = .returned (.tuple #[.agg #[.int .i64 (sfT N rs r), .int .i64 (sfL N rs r)], .bool true]) ∧ Below w.heap.size w w' := by
  have c1 := fun w h => Lib.hid (sSpreadRun_yes N k p c m rs r w h hw hm hr)
  have hv := sf_take hw hr
  obtain ⟨x1, hx1⟩ : ∃ x, srT N rs r = x := ⟨_, rfl⟩
  obtain ⟨y1, hy1⟩ : ∃ x, srL N rs r = x := ⟨_, rfl⟩
  rw [hx1, hy1] at c1 hv
  obtain ⟨X, hX⟩ : ∃ X, sfT N rs r = X := ⟨_, rfl⟩
  obtain ⟨Y, hY⟩ : ∃ Y, sfL N rs r = Y := ⟨_, rfl⟩
  rw [hX, hY] at hv ⊢
  have c4 := fun w => Lib.hid (by have := sTake_any 1 1 x1 y1 w; rw [hv.1, hv.2.1, hv.2.2] at this; exact this)
  have H := Lib.hid h
  clear h hw hm hr hv hx1 hy1 hX hY
  go_enter Tryz.func8, Tryz.ntmps8
  go_upto_region 2 with ((go_at_call 25; (with_reducible refine ((c1 _ ?_).out).mono ?_); (focus ((exact H.out.below (by repeat (first | assumption | exact Below.refl _ _ | (refine below_chain ?_ (by assumption) (by first | omega | (simp <;> omega) | simp)) | (refine Below.alloc ?_ (by first | omega | (simp <;> omega) | simp) _) | (apply below_drewN) | (apply below_drew) | (refine Below.setCell ?_ (by first | omega | (simp <;> omega) | simp) _)))); done)); rintro e wa ⟨rfl, hb_wa⟩; have hs_wa := hb_wa.size; (try simp at hs_wa)))
  obtain ⟨q1, q2, q3, q4⟩ := res_cell hb_wa
  have hBa : Below w.heap.size w wa := (by repeat (first | assumption | exact Below.refl _ _ | (refine below_chain ?_ (by assumption) (by first | omega | (simp <;> omega) | simp)) | (refine Below.alloc ?_ (by first | omega | (simp <;> omega) | simp) _) | (apply below_drewN) | (apply below_drew) | (refine Below.setCell ?_ (by first | omega | (simp <;> omega) | simp) _)))
  have hsa : w.heap.size < wa.heap.size := World.block_lt_of_cell? wa _ q1
  have hal : Below wa.heap.size wa (wa.alloc (.cells #[.int .i64 x1, .int .i64 y1] 27)) := (Below.refl _ _).alloc (Nat.le_refl _) _
  have m1 := cell_below_keep hal q1
  have m2 := cell_below_keep hal q2
  have m3 := frozen_below_kE hal q1 q3
  have m4 := frozen_below_kE hal q2 q4
  have m6 : (wa.alloc (.cells #[.int .i64 x1, .int .i64 y1] 27)).cell? ⟨wa.heap.size, 0, none⟩ = some (.int .i64 x1) := by simp [go_sem]
  have m7 : (wa.alloc (.cells #[.int .i64 x1, .int .i64 y1] 27)).cell? ⟨wa.heap.size, 1, none⟩ = some (.int .i64 y1) := by simp [go_sem]
  have hBV := hBa.trans (hal.mono hBa.size)
  obtain ⟨V, hV⟩ : ∃ V, V = wa.alloc (.cells #[.int .i64 x1, .int .i64 y1] 27) := ⟨_, rfl⟩
  obtain ⟨R, hR⟩ : ∃ R, R = wa.heap.size := ⟨_, rfl⟩
  rw [← hV] at m1 m2 m3 m4 m6 m7 hBV ⊢
  rw [← hR] at m6 m7 hsa ⊢
  have hRw : ¬ R = w.heap.size := by omega
  have hwR : ¬ w.heap.size = R := by omega
  clear hal hV hR q1 q2 q3 q4 hb_wa c1
  go_wp2_with (go_at_call 26; (with_reducible refine ((c4 _).out).mono ?_); rintro e w2 ⟨rfl, hb_w2⟩; have r1 := cell_below_keep hb_w2 m1; have r2 := cell_below_keep hb_w2 m2; have r3 := frozen_below_kE hb_w2 m1 m3; have r4 := frozen_below_kE hb_w2 m2 m4)
  have hB9 : Below w.heap.size w w2 := hBV.trans (hb_w2.mono hBV.size)
  refine bodyPost_ret (v := .tuple #[.agg #[.int .i64 X, .int .i64 Y], .bool true]) (by simp [results, Tryz.results8, go_sem, r1, r2]) rfl ⟨rfl, (hB9.setCell (Nat.le_refl _) _).setCell (Nat.le_refl _) _⟩
end Go.Proofs.YtenllemaccacgaaGreatDoor
