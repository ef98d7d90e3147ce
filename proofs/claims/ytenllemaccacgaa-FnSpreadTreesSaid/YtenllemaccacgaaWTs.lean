/-
  For every code the law FnSpreadTrees returns true: impl.SpreadRun answers as the reference model does; it is the share of the trees that have the run. No condition: every list of bytes is taken.
-/
import Derived.Test.YtenllemaccacgaaRl
import Derived.Test.YtenllemaccacgaaRd
import Derived.Test.YtenllemaccacgaaZm
import Derived.Test.YtenllemaccacgaaCode
namespace Go.Proofs.Ytenllemaccacgaa.fnSpreadTrees
open Go.ChangeShapes Go.WideShapes Go.ChangeAt Go.RowKit
set_option linter.unusedVariables false

set_option maxHeartbeats 8000000 in
set_option maxRecDepth 100000 in
theorem walk (len cap : Nat) (p : Option Addr) (w : World) (hl : len ≤ 1048576) (h : Hid (Code' w (.slice p len cap))) :
    Calls Try.prog 7 #[.slice p len cap] w fun e w' => e = .returned (.bool true) ∧ Below w.heap.size w w' := by
  have hl' : ¬ (1048576 : Int) < (len : Int) := by omega
  go_enter Try.func7, Try.ntmps7
  go_upto_region 4 with (go_at_call 32; (with_reducible refine (drawSprRun_is _ _ h).mono ?_); rintro e wd ⟨N, m, rs, B, u, ⟨c, hmc, rfl⟩, hmm, ⟨⟨hN2, hN6⟩, hl8, hR, hb_wd⟩, hu1, hu2⟩; have HB0 := Lib.hid hb_wd; have HR0 := Lib.hid hR; have HM := Lib.hid hmm; clear hR hb_wd)
  have hm8 : m ≤ 8 := by have := HM.out; omega
  clear h hl8 hmm
  by_cases hy : nWhole (N : Int) rs = true ∧ 0 ≤ u ∧ u < (m : Int)
  · obtain ⟨k, r, rfl, hk, hr⟩ := hasRun_nat (rs := rs) (k := u) ⟨hy.2.1, by have := HM.out; omega⟩
    have hw := hy.1
    have hkm : k < m := by have := HM.out; omega
    have hkm' : (k : Int) < (m : Int) := by omega
    have hn := whole_nok hw
    have hD0 := trN_pos1 hw
    have hro := ok_runs hn r (List.mem_of_getElem? hr)
    clear hy hu1 hu2
    have c1 := fun w h => Lib.hid (iSpreadRun_yes N k (some ⟨B, 0, none⟩) c m rs r w h hw HM.out hr)
    have c2 := fun w h => Lib.hid (sSpreadRun_yes N k (some ⟨B, 0, none⟩) c m rs r w h hw HM.out hr)
    obtain ⟨n, hNn⟩ : ∃ n, N = n + 1 := ⟨N - 1, by omega⟩
    have hok3 := erase_ok hn k
    have hel : (rs.eraseIdx k).length = m - 1 := by rw [List.length_eraseIdx, if_pos hk, HM.out]
    have hfree := (free_whole hn hr).1
    have hgs := gsp_le hn hr
    have hq := sr_ok hw hr
    have z3 := trN_low hn
    have hval := Quo.of_is (N := gsp N rs r) (D := trN N rs) (by omega) (by omega) (by omega)
    have c3 := fun w h => Lib.hid ((iWithout_yes N (some ⟨B, 0, none⟩) c m rs k w h hn HM.out hkm hmc).mono (fun e w' ⟨v, he, hv⟩ => (⟨v, he, hv.p hel⟩ : ∃ v, e = Ending.returned (.tuple #[v, .bool true]) ∧ NewP w (m - 1) (rs.eraseIdx k) v w')))
    have c4 := fun w h => Lib.hid (by have := iTrees_yes N n (some ⟨B, 0, none⟩) c m rs w h hn HM.out hNn; rw [trN_tree hn hNn] at this; exact this)
    have c5 := fun p c w h => Lib.hid (by have := iTrees_yes N n p c (m - 1) (rs.eraseIdx k) w h hok3 hel hNn; rw [trN_tree hok3 hNn, hfree] at this; exact this)
    obtain ⟨x, hx⟩ : ∃ x, srT N rs r = x := ⟨_, rfl⟩
    obtain ⟨y, hy⟩ : ∃ x, srL N rs r = x := ⟨_, rfl⟩
    have c6 := fun w => Lib.hid (by have := iof_any (gsp N rs r) (trN N rs) w; rw [(hval.2 hq).1, (hval.2 hq).2, hval.1, hq, show Quo.T (gsp N rs r) (trN N rs) = x from hx, show Quo.L (gsp N rs r) (trN N rs) = y from hy] at this; exact this)
    rw [hx, hy] at c1 c2
    obtain ⟨D, hD⟩ : ∃ D, trN N rs = D := ⟨_, rfl⟩
    obtain ⟨G, hG⟩ : ∃ D, gsp N rs r = D := ⟨_, rfl⟩
    rw [hD] at c4
    rw [hD] at c5 c6 z3 hgs
    rw [hG] at c5 c6 hgs
    have hDG : IntKind.i64.wrap (D - (D - G)) = G := by rw [IntKind.wrap_i64]; omega
    have hDG2 : D - (D - G) = G := by omega
    obtain ⟨es, hes⟩ : ∃ es, rs.eraseIdx k = es := ⟨_, rfl⟩
    rw [hes] at c3 c5
    clear hw hn hr hk hro hNn hok3 hel hfree hq hval hx hy hD hG hes hD0
    go_upto_region 5 with ((go_at_call 33; (with_reducible refine ((c1 _ ?_).out).mono ?_); (focus ((exact HR0.out); done)); rintro e wi ⟨rfl, hb_wi⟩; have hs_wi := hb_wi.size; (try simp at hs_wi)))
    obtain ⟨V1, Xa, hV, hX, hC, hBd, hXl⟩ := new_cell hb_wi x y 27
    rw [← hV, ← hX]
    have HB1 := Lib.hid (HB0.out.trans (hBd.mono HB0.out.size))
    have HR1 := Lib.hid (HR0.out.below hBd)
    have Ca1 := Lib.hid hC
    have hla := hC.lt
    clear hV hX hC hBd hXl hb_wi hs_wi HB0 HR0
    go_upto_region 6 with ((go_at_call 34; (with_reducible refine ((c2 _ ?_).out).mono ?_); (focus ((exact HR1.out); done)); rintro e wi ⟨rfl, hb_wi⟩; have hs_wi := hb_wi.size; (try simp at hs_wi)))
    obtain ⟨V2, Xb, hV, hX, hC, hBd, hXl⟩ := new_cell hb_wi x y 27
    rw [← hV, ← hX]
    have HB2 := Lib.hid (HB1.out.trans (hBd.mono HB1.out.size))
    have HR2 := Lib.hid (HR1.out.below hBd)
    have Ca2 := Lib.hid (Ca1.out.below hBd)
    have Cb2 := Lib.hid hC
    have hlb := hC.lt
    clear hV hX hC hBd hXl hb_wi hs_wi HB1 HR1 Ca1
    obtain ⟨ap, aq, -, -⟩ := Ca2.out
    obtain ⟨bp, bq, -, -⟩ := Cb2.out
    go_upto_region 9 with ((go_at_call 29; (with_reducible refine ((c3 _ ?_).out).mono ?_); (focus ((exact HR2.out); done)); rintro e wo ⟨v, rfl, po, co, rfl, oo, hb_wo⟩; have hs_wo := hb_wo.size; (try simp at hs_wo)); have OO := Lib.hid oo; clear oo)
    clear ap aq bp bq c1 c2 c3
    have HB3 := Lib.hid (HB2.out.trans ((hb_wo).mono HB2.out.size))
    have HR3 := Lib.hid (HR2.out.below (hb_wo))
    have Ca3 := Lib.hid (Ca2.out.below (hb_wo))
    have Cb3 := Lib.hid (Cb2.out.below (hb_wo))
    clear HB2 HR2 Ca2 Cb2 hb_wo hs_wo
    go_upto_region 10 with (first
      | (go_at_call 36; (with_reducible refine ((c4 _ ?_).out).mono ?_); (focus ((exact HR3.out.below (by repeat (first | assumption | exact Below.refl _ _ | (refine below_chain ?_ (by assumption) (by first | omega | (simp <;> omega) | simp)) | (refine Below.alloc ?_ (by first | omega | (simp <;> omega) | simp) _) | (apply below_drewN) | (apply below_drew) | (refine Below.setCell ?_ (by first | omega | (simp <;> omega) | simp) _)))); done)); rintro e w1 ⟨rfl, hb_w1⟩; have hs_w1 := hb_w1.size; (try simp at hs_w1))
      | (go_at_call 36; (with_reducible refine ((c5 _ _ _ ?_).out).mono ?_); (focus ((exact OO.out.below (by repeat (first | assumption | exact Below.refl _ _ | (refine below_chain ?_ (by assumption) (by first | omega | (simp <;> omega) | simp)) | (refine Below.alloc ?_ (by first | omega | (simp <;> omega) | simp) _) | (apply below_drewN) | (apply below_drew) | (refine Below.setCell ?_ (by first | omega | (simp <;> omega) | simp) _)))); done)); rintro e w2 ⟨rfl, hb_w2⟩; have hs_w2 := hb_w2.size; (try simp at hs_w2))
      | ((go_at_call 35; (with_reducible refine ((c6 _).out).mono ?_); rintro e wi ⟨rfl, hb_wi⟩; have hs_wi := hb_wi.size; (try simp at hs_wi)); have hb_wo : Below wo.heap.size wo wi := (by repeat (first | assumption | exact Below.refl _ _ | (refine below_chain ?_ (by assumption) (by first | omega | (simp <;> omega) | simp)) | (refine Below.alloc ?_ (by first | omega | (simp <;> omega) | simp) _) | (apply below_drewN) | (apply below_drew) | (refine Below.setCell ?_ (by first | omega | (simp <;> omega) | simp) _)))))
    obtain ⟨V4, Xc, hV, hX, hC, hBd, hXl⟩ := new_cell hb_wo x y 27
    rw [← hV, ← hX]
    have HB4 := Lib.hid (HB3.out.trans ((hBd).mono HB3.out.size))
    have HR4 := Lib.hid (HR3.out.below (hBd))
    have Ca4 := Lib.hid (Ca3.out.below (hBd))
    have Cb4 := Lib.hid (Cb3.out.below (hBd))
    clear HB3 HR3 Ca3 Cb3 hV hX hBd
    obtain ⟨cp, cq, -, -⟩ := hC
    obtain ⟨ap, aq, -, -⟩ := Ca4.out
    have HBe := HB4.out
    go_wp2_with fail
    exact bodyPost_ret (v := .bool true) (by simp [results, Try.results7, go_sem]) rfl ⟨rfl, HBe⟩
  · have c1 := fun w h => Lib.hid (iSpreadRun_no N u (some ⟨B, 0, none⟩) c m rs w h HM.out (by omega) hy)
    have c2 := fun w h => Lib.hid (sSpreadRun_no N u (some ⟨B, 0, none⟩) c m rs w h HM.out (by omega) hy)
    clear hy
    go_upto_region 5 with ((go_at_call 33; (with_reducible refine ((c1 _ ?_).out).mono ?_); (focus ((exact HR0.out); done)); rintro e wi ⟨rfl, hb_wi⟩; have hs_wi := hb_wi.size; (try simp at hs_wi)))
    obtain ⟨V1, Xa, hV, hX, hC, hBd, hXl⟩ := new_cell hb_wi 0 0 27
    rw [← hV, ← hX]
    have HB1 := Lib.hid (HB0.out.trans (hBd.mono HB0.out.size))
    have HR1 := Lib.hid (HR0.out.below hBd)
    have Ca1 := Lib.hid hC
    have hla := hC.lt
    clear hV hX hC hBd hXl hb_wi hs_wi HB0 HR0
    go_upto_region 6 with ((go_at_call 34; (with_reducible refine ((c2 _ ?_).out).mono ?_); (focus ((exact HR1.out); done)); rintro e wi ⟨rfl, hb_wi⟩; have hs_wi := hb_wi.size; (try simp at hs_wi)))
    obtain ⟨V2, Xb, hV, hX, hC, hBd, hXl⟩ := new_cell hb_wi 0 0 27
    rw [← hV, ← hX]
    have HB2 := Lib.hid (HB1.out.trans (hBd.mono HB1.out.size))
    have HR2 := Lib.hid (HR1.out.below hBd)
    have Ca2 := Lib.hid (Ca1.out.below hBd)
    have Cb2 := Lib.hid hC
    have hlb := hC.lt
    clear hV hX hC hBd hXl hb_wi hs_wi HB1 HR1 Ca1
    obtain ⟨ap, aq, -, -⟩ := Ca2.out
    obtain ⟨bp, bq, -, -⟩ := Cb2.out
    have HBe := HB2.out
    go_wp2_with fail
    exact bodyPost_ret (v := .bool true) (by simp [results, Try.results7, go_sem]) rfl ⟨rfl, HBe⟩

end Go.Proofs.Ytenllemaccacgaa.fnSpreadTrees
