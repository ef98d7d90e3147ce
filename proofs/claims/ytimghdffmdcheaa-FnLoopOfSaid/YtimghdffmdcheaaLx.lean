/-
  The reference model's LoopOf, LoopErrors and LoopCloses.
  The reference model's LoopErrors and LoopCloses.
-/
import Derived.Test.YtimghdffmdcheaaVz
namespace Go.Proofs.Ytimghdffmdcheaa
open Go.RowKit
set_option linter.unusedVariables false

set_option maxHeartbeats 4000000 in
theorem sLoopOf_yes (N m k : Nat) (p : Option Addr) (c : Nat) (rs : List Rn) (w : World) (h : Runs w p rs) (hm : rs.length = m) (hb : Beside N rs k) :
    Calls Try.prog 27 #[.int .i64 N, .slice p m c, .int .i64 k] w fun e w' => ∃ (g l cap : Nat), e = .returned (.tuple #[.slice (some ⟨g, 0, none⟩) l cap, .bool true]) ∧ w.heap.size ≤ g ∧ Own w' g 3 1 l cap (loopT N rs k) ∧ Below w.heap.size w w' := by
  obtain ⟨hw, ⟨hk0, hk1⟩, hk2⟩ := hb
  rw [Int.toNat_natCast] at hk2
  have ht := first_tree hw
  have hlT := ht.len
  have hN6 := (nOk_true ht.ok).2.1
  have hm12 := (nOk_true ht.ok).2.2.1
  have hm12' : m ≤ 12 := by omega
  have hkm : k < m := by omega
  have hkm' : (k : Int) < (m : Int) := by omega
  have hk12 : (k : Int) < 12 := by omega
  obtain ⟨B, o, r, rfl, hr, hB, x0, x1, x2, x3⟩ := h.at (i := k) (by omega)
  have er' : runOf rs (k : Int) = r := by unfold runOf; simp [hr]
  obtain ⟨q0, q1, q2, q3⟩ := nOk_ends ht.ok r (List.mem_of_getElem? hr)
  obtain ⟨a, ha⟩ : ∃ a : Nat, r.t = (a : Int) := ⟨r.t.toNat, by omega⟩
  obtain ⟨b, hb⟩ : ∃ b : Nat, r.f = (b : Int) := ⟨r.f.toNat, by omega⟩
  have c1 := fun w h => Lib.hid (sFirst_yes N m (some ⟨B, o, none⟩) c rs w h hm hw)
  have c2 := fun w => Lib.hid (nIn k 0 ((m : Int) - 1) true w (by simp; omega))
  have c3 := fun (K cap : Nat) (q : Option Addr) w h hK hl => Lib.hid (sHas K cap q (firstT N rs rs.length) k false w h hK hl (decide_eq_false hk2))
  have HW : Hid (loopT N rs k = ((k : Int) + 1) :: wayT rs (firstT N rs rs.length) a b ∧ (wayT rs (firstT N rs rs.length) a b).length ≤ 12 ∧ ¬ ∃ y M, wayT rs (firstT N rs rs.length) a b = y :: M ∧ ix y = -1) := Lib.hid (by
    have hwe := way_ends hw ht (k := k) (by omega)
    rw [er', ha, hb] at hwe
    refine ⟨by unfold loopT; rw [er', ha, hb], by have := trail_len hwe; omega, ?_⟩
    rintro ⟨y, M, he, hy⟩
    rw [he] at hwe
    have := ht.asc.rng _ (hwe.1 y (by simp))
    omega)
  obtain ⟨W, hWd⟩ : ∃ W, wayT rs (firstT N rs rs.length) a b = W := ⟨_, rfl⟩
  have c4 : ∀ (K cap : Nat) (q : Option Addr) (w : World), Runs w (some ⟨B, o, none⟩) rs → Ints w q (firstT N rs rs.length) → (firstT N rs rs.length).length = K → Hid (Calls Try.prog 66 #[.slice (some ⟨B, o, none⟩) m c, .slice q K cap, .int .i64 a, .int .i64 b, .int .i64 (-1)] w fun e w' => ∃ g cap l, e = .returned (.tuple #[.slice (some ⟨g, 0, none⟩) l cap, .bool true]) ∧ W.length = l ∧ w.heap.size ≤ g ∧ Own w' g 3 1 l cap W ∧ Below w.heap.size w w') := fun K cap q w h hq hK => Lib.hid (by
    refine (sWay N m K c cap (some ⟨B, o, none⟩) q rs (firstT N rs rs.length) b hm hK ht (by omega) K [] a a (-1) w (trail_nil.2 rfl) (by simp) (.inl ⟨rfl, rfl⟩) (by omega) h hq).mono ?_
    rintro e w' ⟨⟨hf, -⟩ | ⟨-, g, cap, l, rfl, hl, hg, ho⟩, hb⟩
    · exact absurd hf HW.out.2.2
    · rw [hWd] at hl ho; exact ⟨g, cap, l, rfl, hl, hg, ho, hb⟩)
  rw [hWd] at HW
  have H := Lib.hid (And.intro h (And.intro hm ht))
  rw [ha] at x1
  rw [hb] at x0
  clear h hm hw ht hk0 hk1 hk2 hr er' q0 q1 q2 q3 hWd
  go_enter Try.func27, Try.ntmps27
  go_upto_region 4 with (first | ((go_at_call 64; (with_reducible refine ((c1 _ ?_).out).mono ?_); (focus ((exact H.out.1); done)); rintro e wa ⟨g0, cap0, K, rfl, hK, hg0, ho, hb_wa⟩; have hs_wa := hb_wa.size; (try simp at hs_wa)); have HO := Lib.hid (And.intro hK ho); have y0 := (hb_wa.cell (p := ⟨B, o + k * 4, none⟩) hB).trans x0; have y1 := (hb_wa.cell (p := ⟨B, o + k * 4 + 1, none⟩) hB).trans x1; have hBb : B < wa.heap.size := (by omega); clear hK ho) | (go_at_call 54; (with_reducible refine ((c2 _).out).mono ?_); rintro e w' ⟨rfl, rfl⟩) | (go_at_call 65; (with_reducible refine ((c3 _ _ _ _ ?_ ?_ ?_).out).mono ?_); (focus (exact HO.out.2.ints; done)); (focus (exact HO.out.1; done)); (focus ((have := HO.out.1; omega); done)); rintro e w' ⟨rfl, rfl⟩))
  go_region_with (go_at_call 66; (with_reducible refine ((c4 _ _ _ _ ?_ ?_ ?_).out).mono ?_); (focus (exact H.out.1.below (by repeat (first | assumption | exact Below.refl _ _ | (refine below_chain ?_ (by assumption) (by first | omega | (simp <;> omega) | simp)) | (refine Below.alloc ?_ (by first | omega | (simp <;> omega) | simp) _) | (apply below_drewN) | (apply below_drew) | (refine Below.setCell ?_ (by first | omega | (simp <;> omega) | simp) _))); done)); (focus (exact (HO.out.2.below (by repeat (first | assumption | exact Below.refl _ _ | (refine below_chain ?_ (by assumption) (by first | omega | (simp <;> omega) | simp)) | (refine Below.alloc ?_ (by first | omega | (simp <;> omega) | simp) _) | (apply below_drewN) | (apply below_drew) | (refine Below.setCell ?_ (by first | omega | (simp <;> omega) | simp) _)))).ints; done)); (focus (exact HO.out.1; done)); rintro e wy ⟨g, cap, l, rfl, hl, hgy, how, hb_wy⟩; have hs_wy := hb_wy.size; (try simp at hs_wy); have HY := Lib.hid (And.intro hl how); clear hl how)
  all_goals (go_wp2_with (at_builtin; refine wp_append _ rfl _ _ 24 rfl 3 _ 1 8 Try.underlying24 info_int rfl (by decide) (by decide) _ 1 1 [(k : Int) + 1] rfl (Own.litI _ _) _ _ _ W rfl (by rw [HY.out.1, Nat.mul_one]) (ints_cellsI (HY.out.2.alloc _).ints) (by have := HW.out.2.1; have := HY.out.1; omega) ?_; intro g' cap' w' hown hgr hloc hsz; have HN := Lib.hid (And.intro hown (And.intro hgr hloc)); clear hown hgr hloc))
  all_goals
    obtain ⟨hown, hgr, hloc⟩ := HN.out
    have hBy : Below w.heap.size w wy := hb_wa.trans ((show Below wa.heap.size wa wy from ⟨hb_wy.os, hb_wy.tape, hb_wy.output, hb_wy.size, hb_wy.block⟩).mono hs_wa)
    have hg' : w.heap.size ≤ g' := by
      rcases hloc with rfl | rfl
      · have := hBy.size; omega
      · have := hBy.size; simp; omega
    exact bodyPost_ret (v := .tuple #[.slice (some ⟨g', 0, none⟩) (1 + l) cap', .bool true]) (by simp [results, Try.results27, go_sem]) rfl ⟨g', 1 + l, cap', rfl, hg', by rw [HW.out.1]; exact hown, below_gr (hBy.alloc hBy.size _) hgr hBy.size (by have := hBy.size; simp; omega)⟩
set_option maxHeartbeats 4000000 in
theorem sLoopOf_no (n : Int) (m : Nat) (k : Int) (p : Option Addr) (c : Nat) (rs : List Rn) (w : World) (h : Runs w p rs) (hm : rs.length = m) (hl : m ≤ 4000000000000000000) (hb : ¬ Beside n rs k) :
    Calls Try.prog 27 #[.int .i64 n, .slice p m c, .int .i64 k] w fun e w' => (∃ g, e = .returned (.tuple #[.slice (some ⟨g, 0, none⟩) 0 0, .bool false])) ∧ Below w.heap.size w w' := by
  have H := Lib.hid (And.intro h hm)
  cases hw : nWhole n rs with
  | false =>
    have c1 := fun w h => Lib.hid (sFirst_no n m p c rs w h hm hl hw)
    clear h hm hb hw
    go_enter Try.func27, Try.ntmps27
    go_wp2_with ((go_at_call 64; (with_reducible refine ((c1 _ ?_).out).mono ?_); (focus ((exact H.out.1); done)); rintro e wa ⟨⟨g, rfl⟩, hb_wa⟩; have hs_wa := hb_wa.size; (try simp at hs_wa)))
    refine bodyPost_ret (v := .tuple #[.slice (some ⟨wa.heap.size, 0, none⟩) 0 0, .bool false]) (by simp [results, Try.results27, go_sem]) rfl ⟨⟨_, rfl⟩, (by repeat (first | assumption | exact Below.refl _ _ | (refine below_chain ?_ (by assumption) (by first | omega | (simp <;> omega) | simp)) | (refine Below.alloc ?_ (by first | omega | (simp <;> omega) | simp) _) | (apply below_drewN) | (apply below_drew) | (refine Below.setCell ?_ (by first | omega | (simp <;> omega) | simp) _)))⟩
  | true =>
    obtain ⟨N, rfl⟩ : ∃ N : Nat, n = (N : Int) := ⟨n.toNat, by have := (nOk_true (whole_ok hw)).1; omega⟩
    have ht := first_tree hw
    have hlT := ht.len
    have hN6 := (nOk_true ht.ok).2.1
    have hm12 : m ≤ 12 := by have := (nOk_true ht.ok).2.2.1; omega
    have c1 := fun w h => Lib.hid (sFirst_yes N m p c rs w h hm hw)
    by_cases hk : 0 ≤ k ∧ k < m
    · have hk2 : k ∈ firstT N rs rs.length := Classical.byContradiction (fun hc => hb ⟨hw, ⟨hk.1, by rw [hm]; exact hk.2⟩, by rw [Int.toNat_natCast]; exact hc⟩)
      have c2 := fun w => Lib.hid (nIn k 0 ((m : Int) - 1) true w (by simp; omega))
      have c3 := fun (K cap : Nat) (q : Option Addr) w h hK hl => Lib.hid (sHas K cap q (firstT N rs rs.length) k true w h hK hl (decide_eq_true hk2))
      clear h hm hb hw ht hk2 hk
      go_enter Try.func27, Try.ntmps27
      go_wp2_with (first | ((go_at_call 64; (with_reducible refine ((c1 _ ?_).out).mono ?_); (focus ((exact H.out.1); done)); rintro e wa ⟨g0, cap0, K, rfl, hK, hg0, ho, hb_wa⟩; have hs_wa := hb_wa.size; (try simp at hs_wa)); have HO := Lib.hid (And.intro hK ho); clear hK ho) | (go_at_call 54; (with_reducible refine ((c2 _).out).mono ?_); rintro e w' ⟨rfl, rfl⟩) | (go_at_call 65; (with_reducible refine ((c3 _ _ _ _ ?_ ?_ ?_).out).mono ?_); (focus (exact HO.out.2.ints; done)); (focus (exact HO.out.1; done)); (focus ((have := HO.out.1; omega); done)); rintro e w' ⟨rfl, rfl⟩))
      refine bodyPost_ret (v := .tuple #[.slice (some ⟨wa.heap.size, 0, none⟩) 0 0, .bool false]) (by simp [results, Try.results27, go_sem]) rfl ⟨⟨_, rfl⟩, (by repeat (first | assumption | exact Below.refl _ _ | (refine below_chain ?_ (by assumption) (by first | omega | (simp <;> omega) | simp)) | (refine Below.alloc ?_ (by first | omega | (simp <;> omega) | simp) _) | (apply below_drewN) | (apply below_drew) | (refine Below.setCell ?_ (by first | omega | (simp <;> omega) | simp) _)))⟩
    · have c2 := fun w => Lib.hid (nIn k 0 ((m : Int) - 1) false w (by simp; omega))
      have c3 := True.intro
      clear h hm hb hw ht hk
      go_enter Try.func27, Try.ntmps27
      go_wp2_with (first | ((go_at_call 64; (with_reducible refine ((c1 _ ?_).out).mono ?_); (focus ((exact H.out.1); done)); rintro e wa ⟨g0, cap0, K, rfl, hK, hg0, ho, hb_wa⟩; have hs_wa := hb_wa.size; (try simp at hs_wa)); have HO := Lib.hid (And.intro hK ho); clear hK ho) | (go_at_call 54; (with_reducible refine ((c2 _).out).mono ?_); rintro e w' ⟨rfl, rfl⟩))
      refine bodyPost_ret (v := .tuple #[.slice (some ⟨wa.heap.size, 0, none⟩) 0 0, .bool false]) (by simp [results, Try.results27, go_sem]) rfl ⟨⟨_, rfl⟩, (by repeat (first | assumption | exact Below.refl _ _ | (refine below_chain ?_ (by assumption) (by first | omega | (simp <;> omega) | simp)) | (refine Below.alloc ?_ (by first | omega | (simp <;> omega) | simp) _) | (apply below_drewN) | (apply below_drew) | (refine Below.setCell ?_ (by first | omega | (simp <;> omega) | simp) _)))⟩
end Go.Proofs.Ytimghdffmdcheaa
namespace Go.Proofs.Ytimghdffmdcheaa
open Go.RowKit
set_option linter.unusedVariables false

set_option maxHeartbeats 4000000 in
set_option maxRecDepth 100000 in
theorem sErrors_yes (N m : Nat) (p : Option Addr) (c : Nat) (rs : List Rn) (w : World) (h : Runs w p rs) (hm : rs.length = m) (hw : nWhole N rs = true) :
    Calls Try.prog 32 #[.int .i64 N, .slice p m c] w fun e w' => ∃ (g l cap : Nat), e = .returned (.tuple #[.slice (some ⟨g, 0, none⟩) l cap, .bool true]) ∧ (errs N rs).length = l ∧ w.heap.size ≤ g ∧ Own w' g 3 1 l cap (errs N rs) ∧ Below w.heap.size w w' := by
  have hn : nOk N rs = true := (whole_iff.1 hw).1
  obtain ⟨hn2, hn6, hl12, -⟩ := nOk_true hn
  have hm12 : m ≤ 12 := by omega
  have H := Lib.hid (And.intro h (And.intro hm hw))
  have HE := Lib.hid (Own.empty w 3 1)
  have c1 := fun w h => Lib.hid (sWhole_n (p := p) (c := c) w hm h (by omega) hw)
  clear h hm hw hn hn2 hn6 hl12
  go_enter Try.func32, Try.ntmps32
  go_wp2_with ((go_at_call 72; (with_reducible refine ((c1 _ ?_).out).mono ?_); (focus ((exact H.out.1.alloc _); done)); rintro e wa ⟨rfl, hb_wa⟩; have hs_wa := hb_wa.size; (try simp at hs_wa)))
  have HA := Lib.hid (And.intro (HE.out.below (w' := wa) (by repeat (first | assumption | exact Below.refl _ _ | (refine below_chain ?_ (by assumption) (by first | omega | (simp <;> omega) | simp)) | (refine Below.alloc ?_ (by first | omega | (simp <;> omega) | simp) _) | (apply below_drewN) | (apply below_drew) | (refine Below.setCell ?_ (by first | omega | (simp <;> omega) | simp) _)))) (show Below w.heap.size w wa from (by repeat (first | assumption | exact Below.refl _ _ | (refine below_chain ?_ (by assumption) (by first | omega | (simp <;> omega) | simp)) | (refine Below.alloc ?_ (by first | omega | (simp <;> omega) | simp) _) | (apply below_drewN) | (apply below_drew) | (refine Below.setCell ?_ (by first | omega | (simp <;> omega) | simp) _)))))
  clear c1 HE hb_wa
  go_loopw [6, 7] (fun v i wr => ∃ (j l g cap : Nat), j ≤ m ∧ i = .int .i64 j ∧ v = .slice (some ⟨g, 0, none⟩) l cap ∧ (errsTo N rs j).length = l ∧ w.heap.size ≤ g ∧ Own wr g 3 1 l cap (errsTo N rs j) ∧ Below w.heap.size w wr) (fun _ i _ => m - (intOf i).toNat)
  case atStart => exact ⟨0, 0, w.heap.size, 0, Nat.zero_le _, rfl, rfl, rfl, Nat.le_refl _, HA.out.1, HA.out.2⟩
  case round =>
    clear HA hs_wa
    obtain ⟨j, l, g, cap, hj, rfl, rfl, hl, hg, ho, hbr⟩ := hrel
    have hbs := hbr.size
    have hll := errsTo_len12 (N := N) (rs := rs) j
    have hl12 : l ≤ 12 := by omega
    have hlo := ho.lt
    have HB := Lib.hid (And.intro hbr (And.intro hl ho))
    clear hbr hl hll ho
    by_cases hlt : j < m
    · have hlt' : (j : Int) < (m : Int) := by omega
      by_cases hb : Beside N rs j
      · have hL := loopT_is (k := j) H.out.2.2 (by have := H.out.2.1; omega)
        have c1 := fun w h => Lib.hid (sLoopOf_yes N m j p c rs w h H.out.2.1 hb)
        have c2 := fun (l cap : Nat) (q : Option Addr) w h hq hl => Lib.hid (sErr m c l cap p q rs (loopT N rs j) w h hq H.out.2.1 hl (by have := hL.most; omega) hm12 (fun z hz => ⟨(hL.run hz).1, (hL.run hz).2.1⟩) (isL_sums hL.ok))
        have HX : Hid (errsTo N rs (j + 1) = errsTo N rs j ++ [lsum rs (loopT N rs j)]) := Lib.hid (errsTo_out (by have := hb.2.2; rwa [Int.toNat_natCast] at this))
        obtain ⟨s, hs⟩ : ∃ s, lsum rs (loopT N rs j) = s := ⟨_, rfl⟩
        rw [hs] at c2 HX
        clear hb hL hs
        go_wp2_with (first | ((go_at_call 27; (with_reducible refine ((c1 _ ?_).out).mono ?_); (focus ((exact H.out.1.below HB.out.1); done)); rintro e wx ⟨gx, lx, cx, rfl, hgx, ox, hb_wx⟩; have hs_wx := hb_wx.size; (try simp at hs_wx)); have OX := Lib.hid ox; have hlx := ox.len; clear ox) | (go_at_call 73; (with_reducible refine ((c2 _ _ _ _ ?_ ?_ ?_).out).mono ?_); (focus (exact (H.out.1.below HB.out.1).below hb_wx; done)); (focus (exact OX.out.ints; done)); (focus (omega; done)); rintro e we ⟨rfl, rfl⟩) | (at_builtin; refine wp_append _ rfl _ _ 24 rfl 3 _ 1 8 Try.underlying24 info_int rfl (by decide) (by decide) g l cap _ rfl ((HB.out.2.2.below hb_wx).alloc _) _ _ _ [s] rfl rfl (one_cell _ _ _) (by omega) ?_; intro g' cap' w' hown hgr hloc hsz; have HN := Lib.hid (And.intro hown (And.intro hgr (And.intro hloc hsz))); clear hown hgr hloc hsz))
        go_roundw
        case rel =>
          obtain ⟨hown, hgr, hloc, hsz⟩ := HN.out
          have hB1 : Below w.heap.size w wx := HB.out.1.trans (hb_wx.mono hbs)
          have h1 := hB1.size
          have hg' : w.heap.size ≤ g' := by
            rcases hloc with rfl | rfl
            · exact hg
            · simp; omega
          exact ⟨j + 1, l + 1, g', cap', by omega, by go_num, rfl, by rw [HX.out]; simp; exact HB.out.2.1, hg', by rw [HX.out]; exact hown, below_gr (hB1.alloc h1 _) hgr hg (by simp; omega)⟩
        case measure => simp [intOf]; omega
      · have c1 := fun w h => Lib.hid (sLoopOf_no N m j p c rs w h H.out.2.1 (by omega) hb)
        have HX : Hid (errsTo N rs (j + 1) = errsTo N rs j) := Lib.hid (errsTo_in (Classical.byContradiction (fun hc => hb ⟨H.out.2.2, ⟨by omega, by have := H.out.2.1; omega⟩, by rw [Int.toNat_natCast]; exact hc⟩)))
        clear hb
        go_wp2_with ((go_at_call 27; (with_reducible refine ((c1 _ ?_).out).mono ?_); (focus ((exact H.out.1.below HB.out.1); done)); rintro e wx ⟨⟨gx, rfl⟩, hb_wx⟩; have hs_wx := hb_wx.size; (try simp at hs_wx)))
        go_roundw
        case rel => exact ⟨j + 1, l, g, cap, by omega, by go_num, rfl, by rw [HX.out]; exact HB.out.2.1, hg, by rw [HX.out]; exact HB.out.2.2.below hb_wx, HB.out.1.trans (by repeat (first | assumption | exact Below.refl _ _ | (refine below_chain ?_ (by assumption) (by first | omega | (simp <;> omega) | simp)) | (refine Below.alloc ?_ (by first | omega | (simp <;> omega) | simp) _) | (apply below_drewN) | (apply below_drew) | (refine Below.setCell ?_ (by first | omega | (simp <;> omega) | simp) _)))⟩
        case measure => simp [intOf]; omega
    · have e : j = m := by omega
      subst e
      have HX : Hid (errs N rs = errsTo N rs j) := Lib.hid (by unfold errs; rw [H.out.2.1])
      go_wp2_with fail
      refine bodyPost_ret (v := .tuple #[.slice (some ⟨g, 0, none⟩) l cap, .bool true]) (by simp [results, Try.results32, go_sem]) rfl ⟨g, l, cap, rfl, by rw [HX.out]; exact HB.out.2.1, hg, by rw [HX.out]; exact HB.out.2.2, HB.out.1⟩
theorem sErrors_no (n : Int) (m : Nat) (p : Option Addr) (c : Nat) (rs : List Rn) (w : World) (h : Runs w p rs) (hm : rs.length = m) (hl : m ≤ 4000000000000000000) (hw : nWhole n rs = false) :
    Calls Try.prog 32 #[.int .i64 n, .slice p m c] w fun e w' => (∃ g, e = .returned (.tuple #[.slice (some ⟨g, 0, none⟩) 0 0, .bool false])) ∧ Below w.heap.size w w' := by
  have H := Lib.hid h
  have c1 := fun w h => Lib.hid (sWhole_n (p := p) (c := c) w hm h hl hw)
  clear h hm hw
  go_enter Try.func32, Try.ntmps32
  go_wp2_with ((go_at_call 72; (with_reducible refine ((c1 _ ?_).out).mono ?_); (focus ((exact H.out.alloc _); done)); rintro e wa ⟨rfl, hb_wa⟩; have hs_wa := hb_wa.size; (try simp at hs_wa)))
  refine bodyPost_ret (v := .tuple #[.slice (some ⟨w.heap.size, 0, none⟩) 0 0, .bool false]) (by simp [results, Try.results32, go_sem]) rfl ⟨⟨_, rfl⟩, (by repeat (first | assumption | exact Below.refl _ _ | (refine below_chain ?_ (by assumption) (by first | omega | (simp <;> omega) | simp)) | (refine Below.alloc ?_ (by first | omega | (simp <;> omega) | simp) _) | (apply below_drewN) | (apply below_drew) | (refine Below.setCell ?_ (by first | omega | (simp <;> omega) | simp) _)))⟩
set_option maxHeartbeats 1000000 in
theorem sCloses_yes (N m : Nat) (p : Option Addr) (c : Nat) (rs : List Rn) (b : Bool) (w : World) (h : Runs w p rs) (hm : rs.length = m) (hw : nWhole N rs = true) (hb : closes N rs = b) :
    Calls Try.prog 37 #[.int .i64 N, .slice p m c] w fun e w' => e = .returned (.bool b) ∧ Below w.heap.size w w' := by
  have H := Lib.hid h
  have c1 := fun w h => Lib.hid (sErrors_yes N m p c rs w h hm hw)
  have hl12 : (errs N rs).length ≤ 12 := by
    have := errsTo_len12 (N := N) (rs := rs) rs.length
    have := (nOk_true (whole_iff.1 hw).1).2.2.1
    unfold errs; omega
  have HB := Lib.hid (And.intro hb hw)
  clear h hm hw hb
  go_enter Try.func37, Try.ntmps37
  go_wp2_with ((go_at_call 32; (with_reducible refine ((c1 _ ?_).out).mono ?_); (focus ((exact H.out); done)); rintro e wa ⟨g, l, cap, rfl, hl, hg, ho, hb_wa⟩; have hs_wa := hb_wa.size; (try simp at hs_wa)); have HO := Lib.hid (And.intro hl ho); have hlo := ho.lt; clear ho hl)
  have hl' : l ≤ 12 := by have := HO.out.1; omega
  go_loopw [7] (fun i wr => ∃ j : Nat, j ≤ l ∧ i = .int .i64 j ∧ (∀ e ∈ (errs N rs).take j, e = 0) ∧ wa = wr) (fun i _ => l - (intOf i).toNat)
  case atStart => exact ⟨0, Nat.zero_le _, rfl, by simp, rfl⟩
  case round =>
    obtain ⟨j, hj, rfl, hz, rfl⟩ := hrel
    have HZ := Lib.hid hz
    clear hz
    by_cases hlt : j < l
    · obtain ⟨z, hz⟩ : ∃ z, (errs N rs)[j]? = some z := ⟨_, List.getElem?_eq_getElem (by have := HO.out.1; omega)⟩
      have e0 := HO.out.2.cells hz
      have hlt' : (j : Int) < (l : Int) := by omega
      by_cases h0 : z = 0
      · have HX : Hid (∀ e ∈ (errs N rs).take (j + 1), e = 0) := Lib.hid (fun e he => by
          rw [take_succ_of hz] at he
          rcases List.mem_append.1 he with h | h
          · exact HZ.out e h
          · simp at h; subst h; exact h0)
        subst h0
        clear hz
        go_wp2_with fail
        go_roundw
        case rel => exact ⟨j + 1, by omega, by go_num, HX.out, by first | trivial | rfl⟩
        case measure => simp [intOf]; omega
      · have h0' : (z == 0) = false := by simpa using h0
        have HF : Hid (false = b) := Lib.hid (by
          rw [← HB.out.1]
          cases hc : closes N rs with
          | false => rfl
          | true => exact absurd ((closes_true.1 hc).2 z (List.mem_of_getElem? hz)) h0)
        clear hz
        go_wp2_with fail
        go_ret
        exact ⟨ret_bool HF.out, hb_wa⟩
    · have e : j = l := by omega
      subst e
      have HF : Hid (true = b) := Lib.hid (by
        rw [← HB.out.1]
        exact (closes_true.2 ⟨HB.out.2, by have := HZ.out; rwa [List.take_of_length_le (Nat.le_of_eq HO.out.1)] at this⟩).symm)
      go_wp2_with fail
      go_ret
      exact ⟨ret_bool HF.out, hb_wa⟩
theorem sCloses_no (n : Int) (m : Nat) (p : Option Addr) (c : Nat) (rs : List Rn) (w : World) (h : Runs w p rs) (hm : rs.length = m) (hl : m ≤ 4000000000000000000) (hw : nWhole n rs = false) :
    Calls Try.prog 37 #[.int .i64 n, .slice p m c] w fun e w' => e = .returned (.bool false) ∧ Below w.heap.size w w' := by
  have H := Lib.hid h
  have c1 := fun w h => Lib.hid (sErrors_no n m p c rs w h hm hl hw)
  clear h hm hw
  go_enter Try.func37, Try.ntmps37
  go_wp2_with ((go_at_call 32; (with_reducible refine ((c1 _ ?_).out).mono ?_); (focus ((exact H.out); done)); rintro e wa ⟨⟨g, rfl⟩, hb_wa⟩; have hs_wa := hb_wa.size; (try simp at hs_wa)))
  go_loopw [7] (fun i wr => i = .int .i64 0 ∧ wa = wr) (fun i _ => 0)
  case atStart => exact ⟨rfl, rfl⟩
  case round =>
    obtain ⟨rfl, rfl⟩ := hrel
    go_wp2_with fail
    go_ret
    exact ⟨rfl, hb_wa⟩
end Go.Proofs.Ytimghdffmdcheaa
