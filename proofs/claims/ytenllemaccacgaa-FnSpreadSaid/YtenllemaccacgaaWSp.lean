/-
  For every two codes the law FnSpread returns true: impl.SpreadOf answers as the reference model does; spreads are the same both ways, 0 between equal nodes alone, and no greater than the sum over a third node. No condition: every two lists of bytes are taken.
-/
import Derived.Test.YtenllemaccacgaaRl
import Derived.Test.YtenllemaccacgaaRd
import Derived.Test.YtenllemaccacgaaCode
namespace Go.Proofs.Ytenllemaccacgaa.fnSpread
open Go.ChangeShapes Go.WideShapes Go.ChangeAt Go.RowKit
set_option linter.unusedVariables false

set_option maxHeartbeats 8000000 in
set_option maxRecDepth 100000 in
theorem walk (len cap : Nat) (p : Option Addr) (len2 cap2 : Nat) (p2 : Option Addr) (w : World) (hl : len ≤ 1048576) (hl2 : len2 ≤ 1048576) (h : Hid (Code' w (.slice p len cap))) (h2 : Hid (Code' w (.slice p2 len2 cap2))) :
    Calls Try.prog 3 #[.slice p len cap, .slice p2 len2 cap2] w fun e w' => e = .returned (.bool true) ∧ Below w.heap.size w w' := by
  have hl' : ¬ (1048576 : Int) < (len : Int) := by omega
  have hl2' : ¬ (1048576 : Int) < (len2 : Int) := by omega
  clear h2
  go_enter Try.func3, Try.ntmps3
  go_upto_region 4 with (go_at_call 19; (with_reducible refine (drawSpread_is _ _ h).mono ?_); rintro e wd ⟨N, m, rs, B, u, v, ⟨c, hmc, rfl⟩, hmm, ⟨⟨hN2, hN6⟩, hl8, hR, hb_wd⟩, ⟨hu1, hu2⟩, hv1, hv2⟩; have HB0 := Lib.hid hb_wd; have HR0 := Lib.hid hR; have HM := Lib.hid hmm; clear hR hb_wd)
  have hm8 : m ≤ 8 := by have := HM.out; omega
  clear h hl8 hmm
  by_cases hy : nWhole (N : Int) rs = true ∧ (0 ≤ u ∧ u < (N : Int)) ∧ (0 ≤ v ∧ v < (N : Int))
  · obtain ⟨i, rfl⟩ : ∃ i : Nat, u = (i : Int) := ⟨u.toNat, by omega⟩
    obtain ⟨j, rfl⟩ : ∃ j : Nat, v = (j : Int) := ⟨v.toNat, by omega⟩
    have hw := hy.1
    have hi : i < N := by omega
    have hj : j < N := by omega
    have hn := whole_nok hw
    have hD0 := trN_pos1 hw
    clear hy hu1 hu2 hv1 hv2
    have c1 := fun w h => Lib.hid (iSpreadOf_yes N i j (some ⟨B, 0, none⟩) c m rs w h hw HM.out hi hj)
    have c2 := fun w h => Lib.hid (sSpreadOf_yes N i j (some ⟨B, 0, none⟩) c m rs w h hw HM.out hi hj)
    have hmod : len2 % N < N := Nat.mod_lt _ (by omega)
    obtain ⟨M, hM⟩ : ∃ M, len2 % N = M := ⟨_, rfl⟩
    rw [hM] at hmod
    have hMi : (len2 : Int) % (N : Int) = (M : Int) := by rw [← hM, Int.natCast_emod]
    have hN0 : ¬ N = 0 := by omega
    have hN0' : ¬ (N : Int) = 0 := by omega
    have c3 := fun w h => Lib.hid (by have := iSpreadOf_yes N j i (some ⟨B, 0, none⟩) c m rs w h hw HM.out hj hi; rw [spr_sym.1, spr_sym.2] at this; exact this)
    have c4 := fun w h => Lib.hid (iSpreadOf_yes N i M (some ⟨B, 0, none⟩) c m rs w h hw HM.out hi hmod)
    have c5 := fun w h => Lib.hid (iSpreadOf_yes N M j (some ⟨B, 0, none⟩) c m rs w h hw HM.out hmod hj)
    have v1 := spr_val (i := i) (j := j) hw hi hj
    have v2 := spr_val (i := i) (j := M) hw hi hmod
    have v3 := spr_val (i := M) (j := j) hw hmod hj
    have z1 := spN_low hn hi hmod
    have z2 := spN_low hn hmod hj
    have z3 := trN_low hn
    have ztri := spN_tri (N := N) (i := i) (j := M) (k := j) (rs := rs) (wgt1 hn) hi hmod hj
    obtain ⟨f, g, hadd, v4⟩ := add_val v2 v3 (Quo.q_ok (by omega) (by omega) hD0 (by omega))
    have hord := order_val v1 v4 hD0
    have hsg := sg_le (x := spN N rs i j - (spN N rs i M + spN N rs M j)) (by omega)
    rw [← hord.2, hord.1] at hsg
    have hzero : (i = j → sprT N rs i j = 0) ∧ (i ≠ j → ¬ sprT N rs i j = 0) := ⟨fun e => by subst e; exact (spr_self hw).1, fun e h0 => by have := spr_zero hw hi hj e; omega⟩
    obtain ⟨x, hx⟩ : ∃ x, sprT N rs i j = x := ⟨_, rfl⟩
    obtain ⟨y, hy⟩ : ∃ x, sprL N rs i j = x := ⟨_, rfl⟩
    obtain ⟨a1, ha1⟩ : ∃ x, sprT N rs i M = x := ⟨_, rfl⟩
    obtain ⟨a2, ha2⟩ : ∃ x, sprL N rs i M = x := ⟨_, rfl⟩
    obtain ⟨b1, hb1⟩ : ∃ x, sprT N rs M j = x := ⟨_, rfl⟩
    obtain ⟨b2, hb2⟩ : ∃ x, sprL N rs M j = x := ⟨_, rfl⟩
    rw [hx, hy] at c1 c2 c3 hord hsg
    rw [hx] at hzero
    rw [ha1, ha2] at c4 hadd
    rw [hb1, hb2] at c5 hadd
    have c6 := fun w => Lib.hid (by have := iAdd_any a1 a2 b1 b2 w; rw [hadd.1, hadd.2.1, hadd.2.2] at this; exact this)
    have c7 := fun w => Lib.hid (by have := iOrder_any x y f g w; rw [hord.1] at this; exact this)
    obtain ⟨od, hod⟩ : ∃ o, Quo.gS true (x * g - f * y) = o := ⟨_, rfl⟩
    rw [hod] at c7 hsg
    clear hw hn v1 v2 v3 v4 z1 z2 z3 ztri hord hadd hx hy ha1 ha2 hb1 hb2 hod hM hD0
    go_upto_region 5 with ((go_at_call 20; (with_reducible refine ((c1 _ ?_).out).mono ?_); (focus ((exact HR0.out); done)); rintro e wi ⟨rfl, hb_wi⟩; have hs_wi := hb_wi.size; (try simp at hs_wi)))
    obtain ⟨V1, Xa, hV, hX, hC, hBd, hXl⟩ := new_cell hb_wi x y 27
    rw [← hV, ← hX]
    have HB1 := Lib.hid (HB0.out.trans (hBd.mono HB0.out.size))
    have HR1 := Lib.hid (HR0.out.below hBd)
    have Ca1 := Lib.hid hC
    have hla := hC.lt
    clear hV hX hC hBd hXl hb_wi hs_wi HB0 HR0
    go_upto_region 6 with ((go_at_call 21; (with_reducible refine ((c2 _ ?_).out).mono ?_); (focus ((exact HR1.out); done)); rintro e wi ⟨rfl, hb_wi⟩; have hs_wi := hb_wi.size; (try simp at hs_wi)))
    obtain ⟨V2, Xb, hV, hX, hC, hBd, hXl⟩ := new_cell hb_wi x y 27
    rw [← hV, ← hX]
    have HB2 := Lib.hid (HB1.out.trans (hBd.mono HB1.out.size))
    have HR2 := Lib.hid (HR1.out.below hBd)
    have Ca2 := Lib.hid (Ca1.out.below hBd)
    have Cb2 := Lib.hid hC
    have hlb := hC.lt
    clear hV hX hC hBd hXl hb_wi hs_wi HB1 HR1 Ca1
    obtain ⟨ap, aq, -, -⟩ := Ca2.out
    obtain ⟨bp, bq, -, -⟩ := Cb2.out
    go_upto_region 9 with ((go_at_call 20; (with_reducible refine ((c3 _ ?_).out).mono ?_); (focus ((exact HR2.out); done)); rintro e wi ⟨rfl, hb_wi⟩; have hs_wi := hb_wi.size; (try simp at hs_wi)))
    obtain ⟨V3, Xc, hV, hX, hC, hBd, hXl⟩ := new_cell hb_wi x y 27
    rw [← hV, ← hX]
    have HB3 := Lib.hid (HB2.out.trans (hBd.mono HB2.out.size))
    have HR3 := Lib.hid (HR2.out.below hBd)
    have Ca3 := Lib.hid (Ca2.out.below hBd)
    have Cb3 := Lib.hid (Cb2.out.below hBd)
    have Cc3 := Lib.hid hC
    have hlc := hC.lt
    clear hV hX hC hBd hXl hb_wi hs_wi HB2 HR2 Ca2 Cb2
    go_upto_region 11 with ((go_at_call 20; (with_reducible refine ((c4 _ ?_).out).mono ?_); (focus ((exact HR3.out); done)); rintro e wi ⟨rfl, hb_wi⟩; have hs_wi := hb_wi.size; (try simp at hs_wi)))
    obtain ⟨V4, Xd, hV, hX, hC, hBd, hXl⟩ := new_cell hb_wi a1 a2 27
    rw [← hV, ← hX]
    have HB4 := Lib.hid (HB3.out.trans (hBd.mono HB3.out.size))
    have HR4 := Lib.hid (HR3.out.below hBd)
    have Ca4 := Lib.hid (Ca3.out.below hBd)
    have Cb4 := Lib.hid (Cb3.out.below hBd)
    have Cc4 := Lib.hid (Cc3.out.below hBd)
    have Cd4 := Lib.hid hC
    have hld := hC.lt
    clear hV hX hC hBd hXl hb_wi hs_wi HB3 HR3 Ca3 Cb3 Cc3
    go_upto_region 12 with ((go_at_call 20; (with_reducible refine ((c5 _ ?_).out).mono ?_); (focus ((exact HR4.out); done)); rintro e wi ⟨rfl, hb_wi⟩; have hs_wi := hb_wi.size; (try simp at hs_wi)))
    obtain ⟨V5, Xe, hV, hX, hC, hBd, hXl⟩ := new_cell hb_wi b1 b2 27
    rw [← hV, ← hX]
    have HB5 := Lib.hid (HB4.out.trans (hBd.mono HB4.out.size))
    have HR5 := Lib.hid (HR4.out.below hBd)
    have Ca5 := Lib.hid (Ca4.out.below hBd)
    have Cb5 := Lib.hid (Cb4.out.below hBd)
    have Cc5 := Lib.hid (Cc4.out.below hBd)
    have Cd5 := Lib.hid (Cd4.out.below hBd)
    have Ce5 := Lib.hid hC
    have hle := hC.lt
    clear hV hX hC hBd hXl hb_wi hs_wi HB4 HR4 Ca4 Cb4 Cc4 Cd4
    clear ap aq bp bq
    obtain ⟨dp, dq, -, -⟩ := Cd5.out
    obtain ⟨ep, eq, -, -⟩ := Ce5.out
    go_upto_region 13 with (go_at_call 22; (with_reducible refine ((c6 _).out).mono ?_); rintro e wi ⟨rfl, hb_wi⟩; have hs_wi := hb_wi.size)
    obtain ⟨V6, Xf, hV, hX, hC, hBd, hXl⟩ := new_cell hb_wi f g 27
    rw [← hV, ← hX]
    have HB6 := Lib.hid (HB5.out.trans (hBd.mono HB5.out.size))
    have HR6 := Lib.hid (HR5.out.below hBd)
    have Ca6 := Lib.hid (Ca5.out.below hBd)
    have Cb6 := Lib.hid (Cb5.out.below hBd)
    have Cc6 := Lib.hid (Cc5.out.below hBd)
    have Cd6 := Lib.hid (Cd5.out.below hBd)
    have Ce6 := Lib.hid (Ce5.out.below hBd)
    have Cf6 := Lib.hid hC
    have hlf := hC.lt
    clear hV hX hC hBd hXl hb_wi hs_wi HB5 HR5 Ca5 Cb5 Cc5 Cd5 Ce5
    clear dp dq ep eq
    obtain ⟨ap, aq, -, -⟩ := Ca6.out
    obtain ⟨fp, fq, -, -⟩ := Cf6.out
    go_upto_region 14 with (go_at_call 23; (with_reducible refine ((c7 _).out).mono ?_); rintro e wi ⟨rfl, hb_wi⟩; have hs_wi := hb_wi.size)
    clear ap aq fp fq
    have HB7 := Lib.hid (HB6.out.trans ((hb_wi).mono HB6.out.size))
    have HR7 := Lib.hid (HR6.out.below (hb_wi))
    have Ca7 := Lib.hid (Ca6.out.below (hb_wi))
    have Cb7 := Lib.hid (Cb6.out.below (hb_wi))
    have Cc7 := Lib.hid (Cc6.out.below (hb_wi))
    have Cd7 := Lib.hid (Cd6.out.below (hb_wi))
    have Ce7 := Lib.hid (Ce6.out.below (hb_wi))
    have Cf7 := Lib.hid (Cf6.out.below (hb_wi))
    clear HB6 HR6 Ca6 Cb6 Cc6 Cd6 Ce6 Cf6 hs_wi hb_wi
    obtain ⟨ap, aq, -, -⟩ := Ca7.out
    obtain ⟨cp, cq, -, -⟩ := Cc7.out
    by_cases hij : i = j
    · have hx0 := hzero.1 hij
      have hij' : (i : Int) = (j : Int) := by omega
      clear hzero
      subst hx0 hij
      have HBe := HB7.out
      go_wp2_with fail
      exact bodyPost_ret (v := .bool true) (by simp [results, Try.results3, go_sem]) rfl ⟨rfl, HBe⟩
    · have hx0 := hzero.2 hij
      have hij' : ¬ (i : Int) = (j : Int) := by omega
      have hxb : (x == 0) = false := by simpa using hx0
      have hijb : ((i : Int) == (j : Int)) = false := by simpa using hij'
      clear hzero
      have HBe := HB7.out
      go_wp2_with fail
      exact bodyPost_ret (v := .bool true) (by simp [results, Try.results3, go_sem]) rfl ⟨rfl, HBe⟩
  · have c1 := fun w h => Lib.hid (iSpreadOf_no N u v (some ⟨B, 0, none⟩) c m rs w h HM.out (by omega) hy)
    have c2 := fun w h => Lib.hid (sSpreadOf_no N u v (some ⟨B, 0, none⟩) c m rs w h HM.out (by omega) hy)
    clear hy
    go_upto_region 5 with ((go_at_call 20; (with_reducible refine ((c1 _ ?_).out).mono ?_); (focus ((exact HR0.out); done)); rintro e wi ⟨rfl, hb_wi⟩; have hs_wi := hb_wi.size; (try simp at hs_wi)))
    obtain ⟨V1, Xa, hV, hX, hC, hBd, hXl⟩ := new_cell hb_wi 0 0 27
    rw [← hV, ← hX]
    have HB1 := Lib.hid (HB0.out.trans (hBd.mono HB0.out.size))
    have HR1 := Lib.hid (HR0.out.below hBd)
    have Ca1 := Lib.hid hC
    have hla := hC.lt
    clear hV hX hC hBd hXl hb_wi hs_wi HB0 HR0
    go_upto_region 6 with ((go_at_call 21; (with_reducible refine ((c2 _ ?_).out).mono ?_); (focus ((exact HR1.out); done)); rintro e wi ⟨rfl, hb_wi⟩; have hs_wi := hb_wi.size; (try simp at hs_wi)))
    obtain ⟨V2, Xb, hV, hX, hC, hBd, hXl⟩ := new_cell hb_wi 0 0 27
    rw [← hV, ← hX]
    have HB2 := Lib.hid (HB1.out.trans (hBd.mono HB1.out.size))
    have HR2 := Lib.hid (HR1.out.below hBd)
    have Ca2 := Lib.hid (Ca1.out.below hBd)
    have Cb2 := Lib.hid hC
    have hlb := hC.lt
    clear hV hX hC hBd hXl hb_wi hs_wi HB1 HR1 Ca1
    obtain ⟨ap, aq, -, -⟩ := Ca2.out
    obtain ⟨bp, bq, -, -⟩ := Cb2.out
    have HBe := HB2.out
    go_wp2_with fail
    exact bodyPost_ret (v := .bool true) (by simp [results, Try.results3, go_sem]) rfl ⟨rfl, HBe⟩

end Go.Proofs.Ytenllemaccacgaa.fnSpread
