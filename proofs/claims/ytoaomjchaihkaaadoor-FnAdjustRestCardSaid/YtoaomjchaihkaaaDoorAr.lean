/-
  For every code the law FnAdjustRest returns true: impl.AdjustRest answers as the reference model does; the rise plus the rest is the adjusted rise, and the rest is 0 for a run without which the net is not whole. Condition: the package's error variable holds the error that its initialiser lays (the card ties that to the program's text, pruned to the packages that the law loads); every list of bytes is taken.
-/
import Derived.Test.YtoaomjchaihkaaaDoorEl
import Derived.Test.YtoaomjchaihkaaaDoorDNs
import Derived.Test.YtoaomjchaihkaaaDoorZn
import Derived.Test.YtoaomjchaihkaaaDoorCode
namespace Go.Proofs.YtoaomjchaihkaaaDoor.fnAdjustRest
open Go.ChangeShapes Go.WideShapes Go.ChangeAt Go.RowKit
set_option linter.unusedVariables false

set_option maxHeartbeats 8000000 in
set_option maxRecDepth 100000 in
theorem walk (len cap : Nat) (p : Option Addr) (w : World) (hl : len ≤ 1048576) (h : Hid (Code' w (.slice p len cap))) (he : Hid (ErrV w)) :
    Calls Tryd.prog 5 #[.slice p len cap] w fun e w' => e = .returned (.bool true) ∧ Below w.heap.size w w' := by
  have hl' : ¬ (1048576 : Int) < (len : Int) := by omega
  go_enter Tryd.func5, Tryd.ntmps5
  go_upto_region 4 with (go_at_call 25; (with_reducible refine (drawAdjRest_is _ _ h).mono ?_); rintro e wd ⟨N, m, rs, B, k, ⟨c, hmc, rfl⟩, ⟨⟨hmm, ⟨hN2, hN6⟩, hm8, hns⟩, hR, hb_wd⟩, hk1, hk2⟩; have hs_wd := hb_wd.size; have HR := Lib.hid (show RunsE _ _ _ from ⟨hR, he.out.below hb_wd⟩); have HM := Lib.hid hmm; clear hR)
  clear h hns hmm
  by_cases hy : adjOk (N : Int) rs = true ∧ 0 ≤ k ∧ k < m
  · obtain ⟨j, r, rfl, hj, hr⟩ := hasRun_nat (rs := rs) (k := k) ⟨hy.2.1, by have := HM.out; omega⟩
    obtain ⟨n, hNn⟩ : ∃ n, N = n + 1 := ⟨N - 1, by omega⟩
    obtain ⟨hw, hok⟩ := adj_true hy.1 hNn
    have hn := (whole_iff.1 hw).1
    have hro := rOk_true ((nOk_true hn).2.2.2 j r hr)
    have hD0 : 0 < dT n rs := dT_pos (by rw [← hNn]; exact hw) (by rw [← hNn]; exact hn)
    have hjm : j < m := by rw [← HM.out]; exact hj
    have hjm' : (j : Int) < (m : Int) := by omega
    have hel : (rs.eraseIdx j).length = m - 1 := by rw [List.length_eraseIdx, if_pos hj, HM.out]
    have hok3 := erase_ok hn j
    have c1 := fun w h => Lib.hid (iRest_yes N n j (some ⟨B, 0, none⟩) c m rs r w h hy.1 HM.out hNn hr)
    have c2 := fun w h => Lib.hid (sRest_yes N n j (some ⟨B, 0, none⟩) c m rs r w h hy.1 HM.out hNn hr)
    have c3 := fun w h => Lib.hid (iRun_yes N n j (some ⟨B, 0, none⟩) c m rs r w h hy.1 HM.out hNn hr)
    have c5 := fun w h => Lib.hid ((iWithout_yes N (some ⟨B, 0, none⟩) c m rs j w h hn HM.out hjm hmc).mono (fun e w' ⟨v, he, hv⟩ => (⟨v, he, hv.p hel⟩ : ∃ v, e = Ending.returned (.tuple #[v, .bool true]) ∧ NewP w (m - 1) (rs.eraseIdx j) v w')))
    obtain ⟨bw, hbw⟩ : ∃ b, nWhole (N : Int) (rs.eraseIdx j) = b := ⟨_, rfl⟩
    have c6 := fun p c w h => Lib.hid (show Calls Tryd.prog 29 #[.int .i64 N, .slice p (m - 1) c] w fun e w' => e = .returned (.bool bw) ∧ Below w.heap.size w w' from by rw [← hel]; exact iWhole N p c (rs.eraseIdx j) bw w h (by omega) hbw)
    cases hb : rsB n rs r
    · obtain ⟨x, hx⟩ : ∃ x, rsT n rs r = x := ⟨_, rfl⟩
      obtain ⟨y, hy'⟩ : ∃ x, rsL n rs r = x := ⟨_, rfl⟩
      rw [hx, hy', hb] at c1 c2
      clear hy hr hNn hw hok hn hro hD0 hel hok3 hbw hb hx hy' c3 c5 c6
      go_upto_region 5 with ((go_at_call 16; (with_reducible refine ((c1 _ ?_).out).mono ?_); (focus ((exact HR.out); done)); rintro e wi ⟨rfl, hb_wi⟩; have hs_wi := hb_wi.size; (try simp at hs_wi)))
      have hX := Cell2.new wi x y 31
      have hal : Below wi.heap.size wi (wi.alloc (.cells #[.int .i64 x, .int .i64 y] 31)) := (Below.refl _ _).alloc (Nat.le_refl _) _
      have hBd := hb_wi.trans (hal.mono hs_wi)
      obtain ⟨V, hV⟩ : ∃ V, V = wi.alloc (.cells #[.int .i64 x, .int .i64 y] 31) := ⟨_, rfl⟩
      obtain ⟨XV, hXe⟩ : ∃ X, X = wi.heap.size := ⟨_, rfl⟩
      rw [← hV] at hX hBd ⊢
      rw [← hXe] at hX ⊢
      have HV := Lib.hid (And.intro hX hBd)
      clear hal hX hBd hV hXe hb_wi hs_wi
      go_upto_region 6 with ((go_at_call 26; (with_reducible refine ((c2 _ ?_).out).mono ?_); (focus ((exact (HR.out.below HV.out.2).runs); done)); rintro e wi ⟨rfl, hb_wi⟩; have hs_wi := hb_wi.size; (try simp at hs_wi)))
      have hX := Cell2.new wi x y 31
      have hal : Below wi.heap.size wi (wi.alloc (.cells #[.int .i64 x, .int .i64 y] 31)) := (Below.refl _ _).alloc (Nat.le_refl _) _
      have hBd := hb_wi.trans (hal.mono hs_wi)
      obtain ⟨U, hV⟩ : ∃ V, V = wi.alloc (.cells #[.int .i64 x, .int .i64 y] 31) := ⟨_, rfl⟩
      obtain ⟨XU, hXe⟩ : ∃ X, X = wi.heap.size := ⟨_, rfl⟩
      rw [← hV] at hX hBd ⊢
      rw [← hXe] at hX ⊢
      have HU := Lib.hid (And.intro hX hBd)
      clear hal hX hBd hV hXe hb_wi hs_wi
      obtain ⟨x1, x2, x3, x4⟩ := HV.out.1.below HU.out.2
      obtain ⟨y1, y2, y3, y4⟩ := HU.out.1
      have hB : Below w.heap.size w U := hb_wd.trans ((HV.out.2.trans (HU.out.2.mono HV.out.2.size)).mono hs_wd)
      have HB := Lib.hid hB
      clear hB
      go_wp2_with fail
      exact bodyPost_ret (v := .bool true) (by simp [results, Tryd.results5, go_sem]) rfl ⟨rfl, HB.out⟩
    · obtain ⟨hq1, hq2⟩ : Quo.qO (hT n rs r.t.toNat - hT n rs r.f.toNat) (dT n rs) = true ∧ Quo.qO (rest n rs r) (dT n rs) = true := by
        unfold rsB at hb; simpa using hb
      have hT1 : rsT n rs r = Quo.T (rest n rs r) (dT n rs) := by unfold rsT vT; rw [if_pos hq1, if_pos hq2]
      have hL1 : rsL n rs r = Quo.L (rest n rs r) (dT n rs) := by unfold rsL vL; rw [if_pos hq1, if_pos hq2]
      have hT2 : vT (hT n rs r.t.toNat - hT n rs r.f.toNat) (dT n rs) = Quo.T (hT n rs r.t.toNat - hT n rs r.f.toNat) (dT n rs) := by unfold vT; rw [if_pos hq1]
      have hL2 : vL (hT n rs r.t.toNat - hT n rs r.f.toNat) (dT n rs) = Quo.L (hT n rs r.t.toNat - hT n rs r.f.toNat) (dT n rs) := by unfold vL; rw [if_pos hq1]
      have v1 := Quo.Val.of (N := rest n rs r) (D := dT n rs) (by omega) hq2
      have v2 := Quo.Val.whole (x := r.s) (D := dT n rs) (by omega) (by omega) (by omega)
      have hva := v1.add v2
      have hre : rest n rs r + r.s * dT n rs = hT n rs r.t.toNat - hT n rs r.f.toNat := by unfold rest; rw [Int.mul_comm (dT n rs)]; omega
      rw [hre] at hva
      have hvq := hva.2.1 hq1
      rw [hq1] at hva
      have hbr : bw = false → Quo.T (rest n rs r) (dT n rs) = 0 ∧ Quo.L (rest n rs r) (dT n rs) = 1 := fun hb0 => by
        have hin : InN (n + 1) rs := by rw [← hNn]; exact nOk_in hn
        have hno : ¬ Spn (n + 1) S0 (rs.eraseIdx j) := fun hs => by
          have := (whole_spn (N := N) hok3).2 (by rw [hNn]; exact hs)
          rw [hbw, hb0] at this; cases this
        have h0 := rest_bridge_not hin hr (by omega) ((whole_spn (N := n + 1) (by rw [← hNn]; exact hn)).1 (by rw [← hNn]; exact hw)) hno
        rw [h0]; exact Quo.T_zero (by omega)
      rw [hT1, hL1, hb] at c1 c2
      rw [hT2, hL2, hq1] at c3
      obtain ⟨x, hx⟩ : ∃ x, Quo.T (rest n rs r) (dT n rs) = x := ⟨_, rfl⟩
      obtain ⟨y, hy'⟩ : ∃ x, Quo.L (rest n rs r) (dT n rs) = x := ⟨_, rfl⟩
      obtain ⟨u, hu⟩ : ∃ x, Quo.T (hT n rs r.t.toNat - hT n rs r.f.toNat) (dT n rs) = x := ⟨_, rfl⟩
      obtain ⟨v, hv⟩ : ∃ x, Quo.L (hT n rs r.t.toNat - hT n rs r.f.toNat) (dT n rs) = x := ⟨_, rfl⟩
      rw [hx, hy'] at c1 c2 hva hvq hbr
      rw [hu, hv] at c3 hvq
      have c4 := fun w => Lib.hid (by have := iAdd_any x y r.s 1 w; rw [hva.1, hvq.1, hvq.2] at this; exact this)
      obtain ⟨B', o', r', heq, hr', hBl, -, -, hG3, -⟩ := HR.out.runs.at (i := j) hj
      cases heq
      obtain rfl : r = r' := by rw [hr] at hr'; cases hr'; rfl
      rw [Nat.zero_add] at hG3
      clear hy hr hr' hNn hw hok hn hro hD0 hel hok3 hbw hb hx hy' hu hv hva hvq v1 v2 hre hT1 hT2 hL1 hL2 hq1 hq2
      go_upto_region 5 with ((go_at_call 16; (with_reducible refine ((c1 _ ?_).out).mono ?_); (focus ((exact HR.out); done)); rintro e wi ⟨rfl, hb_wi⟩; have hs_wi := hb_wi.size; (try simp at hs_wi)))
      have hX := Cell2.new wi x y 31
      have hal : Below wi.heap.size wi (wi.alloc (.cells #[.int .i64 x, .int .i64 y] 31)) := (Below.refl _ _).alloc (Nat.le_refl _) _
      have hBd := hb_wi.trans (hal.mono hs_wi)
      obtain ⟨V, hV⟩ : ∃ V, V = wi.alloc (.cells #[.int .i64 x, .int .i64 y] 31) := ⟨_, rfl⟩
      obtain ⟨XV, hXe⟩ : ∃ X, X = wi.heap.size := ⟨_, rfl⟩
      rw [← hV] at hX hBd ⊢
      rw [← hXe] at hX ⊢
      have HV := Lib.hid (And.intro hX hBd)
      clear hal hX hBd hV hXe hb_wi hs_wi
      go_upto_region 6 with ((go_at_call 26; (with_reducible refine ((c2 _ ?_).out).mono ?_); (focus ((exact (HR.out.below HV.out.2).runs); done)); rintro e wi ⟨rfl, hb_wi⟩; have hs_wi := hb_wi.size; (try simp at hs_wi)))
      have hX := Cell2.new wi x y 31
      have hal : Below wi.heap.size wi (wi.alloc (.cells #[.int .i64 x, .int .i64 y] 31)) := (Below.refl _ _).alloc (Nat.le_refl _) _
      have hBd := hb_wi.trans (hal.mono hs_wi)
      obtain ⟨U, hV⟩ : ∃ V, V = wi.alloc (.cells #[.int .i64 x, .int .i64 y] 31) := ⟨_, rfl⟩
      obtain ⟨XU, hXe⟩ : ∃ X, X = wi.heap.size := ⟨_, rfl⟩
      rw [← hV] at hX hBd ⊢
      rw [← hXe] at hX ⊢
      have HU := Lib.hid (And.intro hX hBd)
      clear hal hX hBd hV hXe hb_wi hs_wi
      obtain ⟨x1, x2, x3, x4⟩ := HV.out.1.below HU.out.2
      obtain ⟨y1, y2, y3, y4⟩ := HU.out.1
      have hdU := HV.out.2.trans (HU.out.2.mono HV.out.2.size)
      have HRU := Lib.hid (HR.out.below hdU)
      have hBU := hb_wd.trans (hdU.mono hs_wd)
      have HBU := Lib.hid hBU
      have hsU := hBU.size
      have dG := cell_below_keep hdU hG3
      have HXV := Lib.hid (HV.out.1.below HU.out.2)
      clear hdU hBU HR HV HU c1 c2 hG3 hb_wd
      go_upto_region 9 with ((go_at_call 27; (with_reducible refine ((c3 _ ?_).out).mono ?_); (focus ((exact HRU.out); done)); rintro e wi ⟨rfl, hb_wi⟩; have hs_wi := hb_wi.size; (try simp at hs_wi)))
      have hX := Cell2.new wi u v 31
      have hal : Below wi.heap.size wi (wi.alloc (.cells #[.int .i64 u, .int .i64 v] 31)) := (Below.refl _ _).alloc (Nat.le_refl _) _
      have hBd := hb_wi.trans (hal.mono hs_wi)
      obtain ⟨T, hV⟩ : ∃ V, V = wi.alloc (.cells #[.int .i64 u, .int .i64 v] 31) := ⟨_, rfl⟩
      obtain ⟨XT, hXe⟩ : ∃ X, X = wi.heap.size := ⟨_, rfl⟩
      rw [← hV] at hX hBd ⊢
      rw [← hXe] at hX ⊢
      have HT := Lib.hid (And.intro hX hBd)
      clear hal hX hBd hV hXe hb_wi hs_wi
      have eG := cell_below_keep HT.out.2 dG
      obtain ⟨z1, z2, z3, z4⟩ := HXV.out.below HT.out.2
      have HXT := Lib.hid (HXV.out.below HT.out.2)
      have hzl := World.block_lt_of_cell? T _ z1
      have hbl := World.block_lt_of_cell? T _ eG
      apply ways_cell (x := u) (y := v) (V := T)
      · intro REST
        go_region_with (first
          | (go_at_call 15; (with_reducible refine (whole_q _ _).mono ?_); rintro e w1 ⟨rfl, hb_w1⟩; (first | (have hV1 : Below T.heap.size T w1 := (below_drew (Below.refl _ _)).trans hb_w1; have a0 := cell_below_keep hV1 z1; have b0 := World.block_lt_of_cell? _ _ a0; have a1 := cell_below_keep hV1 z2; have b1 := World.block_lt_of_cell? _ _ a1; have a2 := cell_below_keep hV1 eG; have b2 := World.block_lt_of_cell? _ _ a2) | (have hV1 : Below T.heap.size T w1 := ((below_drew (Below.refl T.heap.size T)).alloc (Nat.le_refl _) (.cells #[.int .i64 0, .int .i64 0] 31)).trans (hb_w1.mono (by simp)); have a0 := cell_below_keep hV1 z1; have b0 := World.block_lt_of_cell? _ _ a0; have a1 := cell_below_keep hV1 z2; have b1 := World.block_lt_of_cell? _ _ a1; have a2 := cell_below_keep hV1 eG; have b2 := World.block_lt_of_cell? _ _ a2; obtain ⟨y1, y2, y3, y4⟩ := (Cell2.new T.drew 0 0 31).below hb_w1)))
          | (go_at_call 18; (with_reducible refine ((c4 _).out).mono ?_); rintro e w2 ⟨rfl, hb_w2⟩; (first | (have hY := (show Cell2 w1 T.heap.size 0 0 from ⟨y1, y2, y3, y4⟩).below hb_w2; have hV2 : Below T.heap.size T w2 := hV1.trans (hb_w2.mono hV1.size); have a0 := cell_below_keep hV2 z1; have b0 := World.block_lt_of_cell? _ _ a0; have a1 := cell_below_keep hV2 z2; have b1 := World.block_lt_of_cell? _ _ a1; have a2 := cell_below_keep hV2 eG; have b2 := World.block_lt_of_cell? _ _ a2; obtain ⟨y1, y2, y3, y4⟩ := hY) | (have hV2 : Below T.heap.size T w2 := hV1.trans (hb_w2.mono hV1.size); have a0 := cell_below_keep hV2 z1; have b0 := World.block_lt_of_cell? _ _ a0; have a1 := cell_below_keep hV2 z2; have b1 := World.block_lt_of_cell? _ _ a1; have a2 := cell_below_keep hV2 eG; have b2 := World.block_lt_of_cell? _ _ a2) | (have hV2 : Below T.heap.size T w2 := (hV1.alloc hV1.size (.cells #[.int .i64 0, .int .i64 0] 31)).trans (hb_w2.mono (by have := hV1.size; simp; omega)); have a0 := cell_below_keep hV2 z1; have b0 := World.block_lt_of_cell? _ _ a0; have a1 := cell_below_keep hV2 z2; have b1 := World.block_lt_of_cell? _ _ a1; have a2 := cell_below_keep hV2 eG; have b2 := World.block_lt_of_cell? _ _ a2; obtain ⟨y1, y2, y3, y4⟩ := (Cell2.new w1 0 0 31).below hb_w2))))
        all_goals
          first
          | (have hYA := Cell2.new w2 u v 31; have hBA : Below T.heap.size T (w2.alloc (.cells #[.int .i64 u, .int .i64 v] 31)) := hV2.alloc hV2.size _; obtain ⟨Y, hYe⟩ : ∃ Y, w2.heap.size = Y := ⟨_, rfl⟩; rw [hYe] at hYA ⊢; refine gen_exitE (fun W => Cell2 W Y u v ∧ Below T.heap.size T W) ⟨hYA, hBA⟩ (fun W hW => ?_); exact REST Y W hW.1 hW.2)
          | (have hYA := (show Cell2 w2 T.heap.size 0 0 from ⟨y1, y2, y3, y4⟩).set u v; have hBA : Below T.heap.size T ((w2.setCell ⟨T.heap.size, 0, none⟩ (.int .i64 u)).setCell ⟨T.heap.size, 1, none⟩ (.int .i64 v)) := (hV2.setCell (Nat.le_refl _) _).setCell (Nat.le_refl _) _; refine gen_exitE (fun W => Cell2 W T.heap.size u v ∧ Below T.heap.size T W) ⟨hYA, hBA⟩ (fun W hW => ?_); obtain ⟨hW1, hW2⟩ := hW; obtain ⟨Y, hYe⟩ : ∃ Y, T.heap.size = Y := ⟨_, rfl⟩; rw [hYe] at hW1 ⊢; exact REST Y W hW1 hW2)
          | (have hYA := (show Cell2 w2 w1.heap.size 0 0 from ⟨y1, y2, y3, y4⟩).set u v; have hBA : Below T.heap.size T ((w2.setCell ⟨w1.heap.size, 0, none⟩ (.int .i64 u)).setCell ⟨w1.heap.size, 1, none⟩ (.int .i64 v)) := (hV2.setCell (hV1.size) _).setCell (hV1.size) _; refine gen_exitE (fun W => Cell2 W w1.heap.size u v ∧ Below T.heap.size T W) ⟨hYA, hBA⟩ (fun W hW => ?_); obtain ⟨hW1, hW2⟩ := hW; obtain ⟨Y, hYe⟩ : ∃ Y, w1.heap.size = Y := ⟨_, rfl⟩; rw [hYe] at hW1 ⊢; exact REST Y W hW1 hW2)
      · intro Y W hY hBW
        have HRW := Lib.hid ((HRU.out.below HT.out.2).below hBW)
        have HXW := Lib.hid (HXT.out.below hBW)
        have HTW := Lib.hid (HT.out.1.below hBW)
        have HYW := Lib.hid hY
        have hBB := HBU.out.trans ((HT.out.2.trans (hBW.mono HT.out.2.size)).mono hsU)
        have HBW := Lib.hid hBB
        have hsW := hBB.size
        clear hBB hY hBW HRU HXT HT HBU z1 z2 z3 z4 eG hzl hbl dG c3 c4
        go_upto_region 11 with ((go_at_call 28; (with_reducible refine ((c5 _ ?_).out).mono ?_); (focus ((exact (HRW.out).runs); done)); rintro e wi ⟨v, rfl, pq, cq, rfl, hrq, hb_wi⟩; have hs_wi := hb_wi.size; (try simp at hs_wi)))
        have HQ := Lib.hid hrq
        obtain ⟨x1, x2, x3, x4⟩ := HXW.out.below hb_wi
        obtain ⟨t1, t2, t3, t4⟩ := HTW.out.below hb_wi
        obtain ⟨v1, v2, v3, v4⟩ := HYW.out.below hb_wi
        have hBB := HBW.out.trans (hb_wi.mono hsW)
        have HBq := Lib.hid hBB
        have hsq := hBB.size
        clear hBB hb_wi hrq HXW HTW HYW HBW HRW c5 hs_wi
        cases bw
        · obtain ⟨rfl, rfl⟩ := hbr rfl
          clear hbr
          go_region_with (first
            | ((go_at_call 29; (with_reducible refine ((c6 _ _ _ ?_).out).mono ?_); (focus ((exact HQ.out.below (by repeat (first | assumption | exact Below.refl _ _ | (refine below_chain ?_ (by assumption) (by first | omega | (simp <;> omega) | simp)) | (refine Below.alloc ?_ (by first | omega | (simp <;> omega) | simp) _) | (apply below_drewN) | (apply below_drew) | (refine Below.setCell ?_ (by first | omega | (simp <;> omega) | simp) _)))); done)); rintro e wh ⟨rfl, hb_wh⟩; have hs_wh := hb_wh.size; (try simp at hs_wh)); have hV1 : Below wi.heap.size wi wh := (below_drew (Below.refl _ _)).trans hb_wh; have k1 := cell_below_keep hV1 x1; have k2 := cell_below_keep hV1 x2)
            | (go_at_call 15; (with_reducible refine (whole_q _ _).mono ?_); rintro e w1 ⟨rfl, hb_w1⟩; have hV2 : Below wi.heap.size wi w1 := hV1.trans (hb_w1.mono hV1.size); have l1 := cell_below_keep hV2 x1; have l2 := cell_below_keep hV2 x2))
          all_goals
            have m1 := cell_below_keep hV2 t1
            have m2 := cell_below_keep hV2 t2
            have m3 := cell_below_keep hV2 v1
            have m4 := cell_below_keep hV2 v2
            have HBB := Lib.hid (HBq.out.trans (hV2.mono hsq))
            clear hV2 hV1 hb_w1 hb_wh
            go_wp2_with fail
            exact bodyPost_ret (v := .bool true) (by simp [results, Tryd.results5, go_sem]) rfl ⟨rfl, HBB.out⟩
        · clear hbr
          go_region_with ((go_at_call 29; (with_reducible refine ((c6 _ _ _ ?_).out).mono ?_); (focus ((exact HQ.out.below (by repeat (first | assumption | exact Below.refl _ _ | (refine below_chain ?_ (by assumption) (by first | omega | (simp <;> omega) | simp)) | (refine Below.alloc ?_ (by first | omega | (simp <;> omega) | simp) _) | (apply below_drewN) | (apply below_drew) | (refine Below.setCell ?_ (by first | omega | (simp <;> omega) | simp) _)))); done)); rintro e wh ⟨rfl, hb_wh⟩; have hs_wh := hb_wh.size; (try simp at hs_wh)))
          all_goals
            have hV2 : Below wi.heap.size wi wh := (below_drew (Below.refl _ _)).trans hb_wh
            have m1 := cell_below_keep hV2 t1
            have m2 := cell_below_keep hV2 t2
            have m3 := cell_below_keep hV2 v1
            have m4 := cell_below_keep hV2 v2
            have HBB := Lib.hid (HBq.out.trans (hV2.mono hsq))
            clear hV2 hb_wh
            go_wp2_with fail
            exact bodyPost_ret (v := .bool true) (by simp [results, Tryd.results5, go_sem]) rfl ⟨rfl, HBB.out⟩
  · have c1 := fun w h => Lib.hid (iRest_no N k (some ⟨B, 0, none⟩) c m rs w h HM.out (by omega) hy)
    have c2 := fun w h => Lib.hid (sRest_no N k (some ⟨B, 0, none⟩) c m rs w h HM.out (by omega) hy)
    clear hy
    go_upto_region 5 with ((go_at_call 16; (with_reducible refine ((c1 _ ?_).out).mono ?_); (focus ((exact HR.out); done)); rintro e wi ⟨rfl, hb_wi⟩; have hs_wi := hb_wi.size; (try simp at hs_wi)))
    have hX := Cell2.new wi 0 0 31
    have hal : Below wi.heap.size wi (wi.alloc (.cells #[.int .i64 0, .int .i64 0] 31)) := (Below.refl _ _).alloc (Nat.le_refl _) _
    have hBd := hb_wi.trans (hal.mono hs_wi)
    obtain ⟨V, hV⟩ : ∃ V, V = wi.alloc (.cells #[.int .i64 0, .int .i64 0] 31) := ⟨_, rfl⟩
    obtain ⟨XV, hXe⟩ : ∃ X, X = wi.heap.size := ⟨_, rfl⟩
    rw [← hV] at hX hBd ⊢
    rw [← hXe] at hX ⊢
    have HV := Lib.hid (And.intro hX hBd)
    clear hal hX hBd hV hXe hb_wi hs_wi
    go_upto_region 6 with ((go_at_call 26; (with_reducible refine ((c2 _ ?_).out).mono ?_); (focus ((exact (HR.out.below HV.out.2).runs); done)); rintro e wi ⟨rfl, hb_wi⟩; have hs_wi := hb_wi.size; (try simp at hs_wi)))
    have hX := Cell2.new wi 0 0 31
    have hal : Below wi.heap.size wi (wi.alloc (.cells #[.int .i64 0, .int .i64 0] 31)) := (Below.refl _ _).alloc (Nat.le_refl _) _
    have hBd := hb_wi.trans (hal.mono hs_wi)
    obtain ⟨U, hV⟩ : ∃ V, V = wi.alloc (.cells #[.int .i64 0, .int .i64 0] 31) := ⟨_, rfl⟩
    obtain ⟨XU, hXe⟩ : ∃ X, X = wi.heap.size := ⟨_, rfl⟩
    rw [← hV] at hX hBd ⊢
    rw [← hXe] at hX ⊢
    have HU := Lib.hid (And.intro hX hBd)
    clear hal hX hBd hV hXe hb_wi hs_wi
    obtain ⟨x1, x2, x3, x4⟩ := HV.out.1.below HU.out.2
    obtain ⟨y1, y2, y3, y4⟩ := HU.out.1
    have hB : Below w.heap.size w U := hb_wd.trans ((HV.out.2.trans (HU.out.2.mono HV.out.2.size)).mono hs_wd)
    have HB := Lib.hid hB
    clear hB
    go_wp2_with fail
    exact bodyPost_ret (v := .bool true) (by simp [results, Tryd.results5, go_sem]) rfl ⟨rfl, HB.out⟩

end Go.Proofs.YtoaomjchaihkaaaDoor.fnAdjustRest
