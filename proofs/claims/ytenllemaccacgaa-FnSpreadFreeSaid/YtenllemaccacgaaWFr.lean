/-
  For every code the law FnSpreadFree returns true: impl.SpreadFree answers as the reference model does; what is free is at least 0 and less than 1, 0 exactly for a run without which the net is not whole, and adds up to the number of loops. No condition: every list of bytes is taken.
-/
import Derived.Test.YtenllemaccacgaaRl
import Derived.Test.YtenllemaccacgaaRd
import Derived.Test.YtenllemaccacgaaZm
import Derived.Test.YtenllemaccacgaaCode
namespace Go.Proofs.Ytenllemaccacgaa.fnSpreadFree
open Go.ChangeShapes Go.WideShapes Go.ChangeAt Go.RowKit
set_option linter.unusedVariables false

theorem lsm_between {D : Int} (f : Rn → Int) : ∀ l : List Rn, (∀ r ∈ l, 0 ≤ f r ∧ f r ≤ D) → 0 ≤ lsm l f ∧ lsm l f ≤ (l.length : Int) * D
  | [], _ => by simp [lsm]
  | r :: l, h => by
    have h1 := h r (by simp)
    have h2 := lsm_between f l (fun x hx => h x (List.mem_cons_of_mem _ hx))
    simp only [lsm]
    rw [List.length_cons, Int.natCast_add, Int.add_mul]
    simp only [Int.natCast_one, Int.one_mul]
    omega
noncomputable def fre (N : Nat) (rs : List Rn) (j : Nat) : Int := lsm (rs.take j) (fun r => trN N rs - gsp N rs r)
theorem fre_step {N j : Nat} {rs : List Rn} {r : Rn} (hr : rs[j]? = some r) : fre N rs (j + 1) = fre N rs j + (trN N rs - gsp N rs r) := lsm_take hr _
theorem fre_low {N j : Nat} {rs : List Rn} (hn : nOk (N : Int) rs = true) (hl : rs.length ≤ 8) : 0 ≤ fre N rs j ∧ fre N rs j ≤ 800000000 := by
  have h := lsm_between (D := trN N rs) (fun r => trN N rs - gsp N rs r) (rs.take j) (fun r hr => by
    obtain ⟨k, hk⟩ := List.getElem?_of_mem (List.mem_of_mem_take hr)
    have := gsp_le hn hk
    omega)
  have h1 := trN_low hn
  have h2 : ((rs.take j).length : Int) ≤ 8 := by rw [List.length_take]; omega
  have h3 : ((rs.take j).length : Int) * trN N rs ≤ 8 * trN N rs := Int.mul_le_mul_of_nonneg_right h2 h1.1
  exact ⟨h.1, by have := h.2; unfold fre; omega⟩
theorem fre_ok {N j : Nat} {rs : List Rn} (hw : nWhole (N : Int) rs = true) (hl : rs.length ≤ 8) : Quo.Val (Quo.T (fre N rs j) (trN N rs)) (Quo.L (fre N rs j) (trN N rs)) (fre N rs j) (trN N rs) := by
  have h1 := fre_low (j := j) (whole_nok hw) hl
  have h2 := trN_low (whole_nok hw)
  have h3 := trN_pos1 hw
  exact Quo.Val.of (by omega) (Quo.q_ok (by omega) (by omega) h3 (by omega))
theorem fre_all {N n : Nat} {rs : List Rn} (hw : nWhole (N : Int) rs = true) (hl : rs.length ≤ 8) (hN : N = n + 1) : Quo.T (fre N rs rs.length) (trN N rs) = (rs.length : Int) - n ∧ Quo.L (fre N rs rs.length) (trN N rs) = 1 := by
  have h := free_sum (whole_nok hw) hN
  have e : fre N rs rs.length = ((rs.length : Int) - n) * trN N rs := by unfold fre; rw [List.take_length]; exact h
  rw [e]
  have hn6 := (nOk_true (whole_nok hw)).2.1
  exact (Quo.Val.whole (x := (rs.length : Int) - n) (D := trN N rs) (by omega) (by omega) (by have := trN_pos1 hw; omega)).TL
theorem whole_loopsN {N n : Nat} {rs : List Rn} (hw : nWhole (N : Int) rs = true) (hN : N = n + 1) : nLoops (N : Int) rs = (rs.length : Int) - n := by
  have h := nLoops_yes (whole_nok hw)
  have h1 : (roots (labs N rs) N : Int) = 1 := by exact_mod_cast (whole_iff.1 hw).2
  rw [h, h1]
  omega
set_option maxHeartbeats 8000000 in
set_option maxRecDepth 100000 in
theorem walk (len cap : Nat) (p : Option Addr) (w : World) (hl : len ≤ 1048576) (h : Hid (Code' w (.slice p len cap))) :
    Calls Try.prog 6 #[.slice p len cap] w fun e w' => e = .returned (.bool true) ∧ Below w.heap.size w w' := by
  have hl' : ¬ (1048576 : Int) < (len : Int) := by omega
  go_enter Try.func6, Try.ntmps6
  go_upto_region 4 with (go_at_call 26; (with_reducible refine (drawSprFree_is _ _ h).mono ?_); rintro e wd ⟨N, m, rs, B, u, ⟨c, hmc, rfl⟩, hmm, ⟨⟨hN2, hN6⟩, hl8, hR, hb_wd⟩, hu1, hu2⟩; have HB0 := Lib.hid hb_wd; have HR0 := Lib.hid hR; have HM := Lib.hid hmm; clear hR hb_wd)
  have hm8 : m ≤ 8 := by have := HM.out; omega
  clear h hl8 hmm
  by_cases hy : nWhole (N : Int) rs = true ∧ 0 ≤ u ∧ u < (m : Int)
  · obtain ⟨k, r, rfl, hk, hr⟩ := hasRun_nat (rs := rs) (k := u) ⟨hy.2.1, by have := HM.out; omega⟩
    have hw := hy.1
    have hkm : k < m := by have := HM.out; omega
    have hkm' : (k : Int) < (m : Int) := by omega
    have hn := whole_nok hw
    have hD0 := trN_pos1 hw
    have hro := ok_runs hn r (List.mem_of_getElem? hr)
    clear hy hu1 hu2
    have c1 := fun w h => Lib.hid (iSpreadFree_yes N k (some ⟨B, 0, none⟩) c m rs r w h hw HM.out hr)
    have c2 := fun w h => Lib.hid (sSpreadFree_yes N k (some ⟨B, 0, none⟩) c m rs r w h hw HM.out hr)
    obtain ⟨n, hNn⟩ : ∃ n, N = n + 1 := ⟨N - 1, by omega⟩
    have hm8' : rs.length ≤ 8 := by have := HM.out; omega
    have hok3 := erase_ok hn k
    have hel : (rs.eraseIdx k).length = m - 1 := by rw [List.length_eraseIdx, if_pos hk, HM.out]
    have hfree := (free_whole hn hr).2
    have hgs := gsp_le hn hr
    have hgp := gsp_pos hw hr
    have v0 := sf_val hw hr
    have hx0 : 0 ≤ sfT N rs r := Quo.T_nn (by omega) hD0
    have hxy : sfT N rs r < sfL N rs r := by
      have h1 := v0.2.2
      have h2 := Quo.qv_true v0.1
      have h3 : (trN N rs - gsp N rs r) * sfL N rs r < trN N rs * sfL N rs r := Int.mul_lt_mul_of_pos_right (by unfold gsp; omega) (by omega)
      rw [← h1, Int.mul_comm (trN N rs)] at h3
      exact Int.lt_of_mul_lt_mul_right h3 (by omega)
    have hz : sfT N rs r = 0 ↔ nWhole (N : Int) (rs.eraseIdx k) = false := (Quo.T_zero_iff (by omega)).trans hfree
    have hall := fre_all hw hm8' hNn
    have hloops := whole_loopsN hw hNn
    rw [HM.out] at hall hloops
    have c3 := fun w h => Lib.hid ((iWithout_yes N (some ⟨B, 0, none⟩) c m rs k w h hn HM.out hkm hmc).mono (fun e w' ⟨v, he, hv⟩ => (⟨v, he, hv.p hel⟩ : ∃ v, e = Ending.returned (.tuple #[v, .bool true]) ∧ NewP w (m - 1) (rs.eraseIdx k) v w')))
    have c4 := fun w => Lib.hid (whole_s 0 w)
    have c5 := fun (j : Nat) (x : Rn) (hj : rs[j]? = some x) w h => Lib.hid (iSpreadFree_yes N j (some ⟨B, 0, none⟩) c m rs x w h hw HM.out hj)
    obtain ⟨bw, hbw⟩ : ∃ b, nWhole (N : Int) (rs.eraseIdx k) = b := ⟨_, rfl⟩
    rw [hbw] at hz
    have c7 := fun p c w h => Lib.hid (show Calls Try.prog 31 #[.int .i64 N, .slice p (m - 1) c] w fun e w' => e = .returned (.bool bw) ∧ Below w.heap.size w w' from by rw [← hel]; exact iWhole N p c (rs.eraseIdx k) bw w h (by omega) hbw)
    have c8 := fun w h => Lib.hid (show Calls Try.prog 24 #[.int .i64 N, .slice (some ⟨B, 0, none⟩) m c] w fun e w' => e = .returned (.int .i64 ((m : Int) - n)) ∧ Below w.heap.size w w' from by rw [← HM.out]; exact iLoops N (some ⟨B, 0, none⟩) c rs _ w h (by omega) (by rw [HM.out]; exact hloops))
    have c9 := fun w => Lib.hid (whole_s ((m : Int) - n) w)
    obtain ⟨x, hx⟩ : ∃ x, sfT N rs r = x := ⟨_, rfl⟩
    obtain ⟨y, hy⟩ : ∃ x, sfL N rs r = x := ⟨_, rfl⟩
    rw [hx, hy] at c1 c2 hxy
    rw [hx] at hx0 hz
    obtain ⟨es, hes⟩ : ∃ es, rs.eraseIdx k = es := ⟨_, rfl⟩
    rw [hes] at c3 c7
    obtain ⟨ml, hml⟩ : ∃ ml : Int, (m : Int) - n = ml := ⟨_, rfl⟩
    rw [hml] at c8 c9 hall
    have HW := Lib.hid (And.intro hw (And.intro hD0 (And.intro hm8' hall)))
    clear hw hn hr hk hro hNn hm8' hok3 hel hfree hgs hgp v0 hall hloops hbw hx hy hes hml hD0 hkm hkm'
    go_upto_region 5 with ((go_at_call 27; (with_reducible refine ((c1 _ ?_).out).mono ?_); (focus ((exact HR0.out); done)); rintro e wi ⟨rfl, hb_wi⟩; have hs_wi := hb_wi.size; (try simp at hs_wi)))
    obtain ⟨V1, Xa, hV, hX, hC, hBd, hXl⟩ := new_cell hb_wi x y 27
    rw [← hV, ← hX]
    have HB1 := Lib.hid (HB0.out.trans (hBd.mono HB0.out.size))
    have HR1 := Lib.hid (HR0.out.below hBd)
    have Ca1 := Lib.hid hC
    have hla := hC.lt
    clear hV hX hC hBd hXl hb_wi hs_wi HB0 HR0
    go_upto_region 6 with ((go_at_call 28; (with_reducible refine ((c2 _ ?_).out).mono ?_); (focus ((exact HR1.out); done)); rintro e wi ⟨rfl, hb_wi⟩; have hs_wi := hb_wi.size; (try simp at hs_wi)))
    obtain ⟨V2, Xb, hV, hX, hC, hBd, hXl⟩ := new_cell hb_wi x y 27
    rw [← hV, ← hX]
    have HB2 := Lib.hid (HB1.out.trans (hBd.mono HB1.out.size))
    have HR2 := Lib.hid (HR1.out.below hBd)
    have Ca2 := Lib.hid (Ca1.out.below hBd)
    have Cb2 := Lib.hid hC
    have hlb := hC.lt
    clear hV hX hC hBd hXl hb_wi hs_wi HB1 HR1 Ca1
    obtain ⟨ap, aq, -, -⟩ := Ca2.out
    obtain ⟨bp, bq, -, -⟩ := Cb2.out
    go_upto_region 9 with ((go_at_call 29; (with_reducible refine ((c3 _ ?_).out).mono ?_); (focus ((exact HR2.out); done)); rintro e wo ⟨v, rfl, po, co, rfl, oo, hb_wo⟩; have hs_wo := hb_wo.size; (try simp at hs_wo)))
    have OO := Lib.hid oo
    clear ap aq bp bq c1 c2 c3 oo
    have HB3 := Lib.hid (HB2.out.trans ((hb_wo).mono HB2.out.size))
    have HR3 := Lib.hid (HR2.out.below (hb_wo))
    have Ca3 := Lib.hid (Ca2.out.below (hb_wo))
    have Cb3 := Lib.hid (Cb2.out.below (hb_wo))
    clear HB2 HR2 Ca2 Cb2 hb_wo hs_wo
    go_upto_region 10 with ((go_at_call 30; (with_reducible refine ((c4 _).out).mono ?_); rintro e wi ⟨rfl, hb_wi⟩; have hs_wi := hb_wi.size; (try simp at hs_wi)))
    obtain ⟨V4, Sb, hV, hX, hC, hBd, hXl⟩ := new_cell hb_wi 0 1 27
    rw [← hV, ← hX]
    have hz0 := Quo.T_zero (D := trN N rs) (by have := HW.out.2.1; omega)
    have HS0 : Hid (Cell2 V4 Sb (Quo.T (fre N rs 0) (trN N rs)) (Quo.L (fre N rs 0) (trN N rs))) := Lib.hid (by
      have e : fre N rs 0 = 0 := rfl
      rw [e, hz0.1, hz0.2]; exact hC)
    have hSbX : Xa < Sb := by have := Ca3.out.lt; omega
    have hSw2 : w.heap.size ≤ Sb := by have := HB3.out.size; omega
    have hSwo : wo.heap.size ≤ Sb := hXl
    have H0 := Lib.hid (And.intro HS0.out hBd)
    clear HS0 hV hX hC hBd hXl hb_wi hs_wi hz0 c4 Cb3
    go_wp2_with fail
    go_loopw [13, 14] (fun gd i wr => ∃ j : Nat, j ≤ m ∧ i = .int .i64 j ∧ gd = .bool true ∧ Cell2 wr Sb (Quo.T (fre N rs j) (trN N rs)) (Quo.L (fre N rs j) (trN N rs)) ∧ Below wo.heap.size wo wr) (fun _ i _ => m - (intOf i).toNat)
    case atStart => exact ⟨0, Nat.zero_le _, rfl, rfl, H0.out.1, H0.out.2⟩
    case round =>
      clear H0
      rename World => wr
      obtain ⟨j, hj, rfl, rfl, hS, hb⟩ := hrel
      have hbs := hb.size
      have hSl2 := hS.lt
      have hA := Ca3.out.below hb
      have hAl := hA.lt
      have hR := HR3.out.below hb
      have hO := OO.out.below hb
      by_cases hlt : j < m
      · have hlt' : (j : Int) < (m : Int) := by omega
        obtain ⟨xr, hxr⟩ : ∃ xr, rs[j]? = some xr := ⟨_, List.getElem?_eq_getElem (by rw [HM.out]; exact hlt)⟩
        have c6 := c5 j xr hxr
        have v1 := fre_ok (j := j) HW.out.1 HW.out.2.2.1
        have v2 := sf_val HW.out.1 hxr
        have hlow := fre_low (j := j + 1) (whole_nok HW.out.1) HW.out.2.2.1
        have hDl := trN_low (whole_nok HW.out.1)
        have hstep := fre_step (N := N) hxr
        obtain ⟨f, g, hadd, v3⟩ := add_val v1 v2 (Quo.q_ok (by omega) (by omega) HW.out.2.1 (by omega))
        rw [← hstep] at v3
        have hTL := v3.TL
        obtain ⟨sa, hsa⟩ : ∃ x, Quo.T (fre N rs j) (trN N rs) = x := ⟨_, rfl⟩
        obtain ⟨sb, hsb⟩ : ∃ x, Quo.L (fre N rs j) (trN N rs) = x := ⟨_, rfl⟩
        obtain ⟨xa, hxa⟩ : ∃ x, sfT N rs xr = x := ⟨_, rfl⟩
        obtain ⟨xb, hxb⟩ : ∃ x, sfL N rs xr = x := ⟨_, rfl⟩
        rw [hsa, hsb, hxa, hxb] at hadd
        rw [hxa, hxb] at c6
        rw [hsa, hsb] at hS
        have c10 := fun w => Lib.hid (by have := iAdd_any sa sb xa xb w; rw [hadd.1, hadd.2.1, hadd.2.2] at this; exact this)
        have HX := Lib.hid (And.intro hS (And.intro hA (And.intro hR (And.intro hO (And.intro hb hTL)))))
        clear hS hA hR hO hb hxr v1 v2 v3 hlow hDl hstep hadd hTL hsa hsb hxa hxb
        go_upto_region 15 with ((go_at_call 27; (with_reducible refine ((c6 _ ?_).out).mono ?_); (focus ((exact HX.out.2.2.1); done)); rintro e wi ⟨rfl, hb_wi⟩; have hs_wi := hb_wi.size; (try simp at hs_wi)))
        obtain ⟨V5, Xc, hV, hX, hC, hBd, hXl⟩ := new_cell hb_wi xa xb 27
        rw [← hV, ← hX]
        have HV := Lib.hid hBd
        obtain ⟨k1, k2, -, -⟩ := hC
        obtain ⟨s1, s2, -, -⟩ := HX.out.1.below hBd
        have hV5 := hBd.size
        clear hV hX hBd hb_wi hs_wi c6
        go_upto_region 16 with (go_at_call 22; (with_reducible refine ((c10 _).out).mono ?_); rintro e wi ⟨rfl, hb_wi⟩; have hs_wi := hb_wi.size)
        obtain ⟨V6, Xd, hV, hX, hC, hBd, hXl2⟩ := new_cell hb_wi f g 27
        rw [← hV, ← hX]
        have HV6 := Lib.hid (HV.out.trans (hBd.mono hV5))
        have hSb6 := HX.out.1.below HV6.out
        obtain ⟨u1, u2, u3, u4⟩ := hSb6
        obtain ⟨k3, k4, -, -⟩ := hC
        have hSX : ¬ Sb = Xd := by omega
        have hXS : ¬ Xd = Sb := by omega
        have hAS : ¬ Xa = Sb := by omega
        have HU := Lib.hid (show Cell2 V6 Sb sa sb from ⟨u1, u2, u3, u4⟩)
        clear hV hX hBd hb_wi hs_wi c10 k1 k2 s1 s2 HV
        go_wp2_with fail
        go_roundw
        case rel =>
          refine ⟨j + 1, by omega, by go_num, rfl, ?_, ((HX.out.2.2.2.2.1.trans (HV6.out.mono hbs)).setCell (p := ⟨Sb, 0, none⟩) hSwo _).setCell (p := ⟨Sb, 1, none⟩) hSwo _⟩
          rw [HX.out.2.2.2.2.2.1, HX.out.2.2.2.2.2.2]; exact HU.out.set f g
        case measure => simp [intOf]; omega
      · have e : m = j := by omega
        subst e
        rw [HW.out.2.2.2.1, HW.out.2.2.2.2] at hS
        have HX := Lib.hid (And.intro hS (And.intro hA (And.intro hR (And.intro hO hb))))
        obtain ⟨s1, s2, -, -⟩ := hS
        obtain ⟨a1, a2, -, -⟩ := hA
        clear hR hO hb c5
        go_upto_region 18 with fail
        have FIN : ∀ b : Bool, b = bw → (b = false → x = 0) ∧ (b = true → ¬ x = 0) := fun b hb' => by
          subst hb'
          exact ⟨fun h => hz.2 h, fun h h0 => by have := hz.1 h0; rw [h] at this; cases this⟩
        have hxn : ¬ x < 0 := by omega
        cases bw
        · have hx00 : x = 0 := hz.2 rfl
          clear FIN hz hx0
          subst hx00
          go_region_held3 (fun W => W.cell? ⟨Sb, 0, none⟩ = some (.int .i64 ml) ∧ W.cell? ⟨Sb, 1, none⟩ = some (.int .i64 1) ∧ W.cell? ⟨Xa, 0, none⟩ = some (.int .i64 0) ∧ W.cell? ⟨Xa, 1, none⟩ = some (.int .i64 y)) (first | (go_keep; done) | ((with_reducible refine cell_below_keep (by with_reducible assumption) ?_); with_reducible assumption)) (first
            | ((go_at_call 31; (with_reducible refine ((c7 _ _ _ ?_).out).mono ?_); (focus ((exact HX.out.2.2.2.1.below (by repeat (first | assumption | exact Below.refl _ _ | (refine below_chain ?_ (by assumption) (by first | omega | (simp <;> omega) | simp)) | (refine Below.alloc ?_ (by first | omega | (simp <;> omega) | simp) _) | (apply below_drewN) | (apply below_drew) | (refine Below.setCell ?_ (by first | omega | (simp <;> omega) | simp) _)))); done)); rintro e w7 ⟨rfl, hb_w7⟩; have hs_w7 := hb_w7.size; (try simp at hs_w7)); have z7 : Below wr.heap.size wr w7 := (by repeat (first | assumption | exact Below.refl _ _ | (refine below_chain ?_ (by assumption) (by first | omega | (simp <;> omega) | simp)) | (refine Below.alloc ?_ (by first | omega | (simp <;> omega) | simp) _) | (apply below_drewN) | (apply below_drew) | (refine Below.setCell ?_ (by first | omega | (simp <;> omega) | simp) _))); have l7a := cell_below_keep z7 s1; have l7b := cell_below_keep z7 s2; have l7c := cell_below_keep z7 a1; have l7d := cell_below_keep z7 a2)
            | ((go_at_call 24; (with_reducible refine ((c8 _ ?_).out).mono ?_); (focus ((exact HX.out.2.2.1.below (by repeat (first | assumption | exact Below.refl _ _ | (refine below_chain ?_ (by assumption) (by first | omega | (simp <;> omega) | simp)) | (refine Below.alloc ?_ (by first | omega | (simp <;> omega) | simp) _) | (apply below_drewN) | (apply below_drew) | (refine Below.setCell ?_ (by first | omega | (simp <;> omega) | simp) _)))); done)); rintro e w8 ⟨rfl, hb_w8⟩; have hs_w8 := hb_w8.size; (try simp at hs_w8)); have z8 : Below wr.heap.size wr w8 := (by repeat (first | assumption | exact Below.refl _ _ | (refine below_chain ?_ (by assumption) (by first | omega | (simp <;> omega) | simp)) | (refine Below.alloc ?_ (by first | omega | (simp <;> omega) | simp) _) | (apply below_drewN) | (apply below_drew) | (refine Below.setCell ?_ (by first | omega | (simp <;> omega) | simp) _))); have l8a := cell_below_keep z8 s1; have l8b := cell_below_keep z8 s2; have l8c := cell_below_keep z8 a1; have l8d := cell_below_keep z8 a2)
            | ((go_at_call 30; (with_reducible refine ((c9 _).out).mono ?_); rintro e w9 ⟨rfl, hb_w9⟩; have hs_w9 := hb_w9.size; (try simp at hs_w9)); have z9 : Below wr.heap.size wr w9 := (by repeat (first | assumption | exact Below.refl _ _ | (refine below_chain ?_ (by assumption) (by first | omega | (simp <;> omega) | simp)) | (refine Below.alloc ?_ (by first | omega | (simp <;> omega) | simp) _) | (apply below_drewN) | (apply below_drew) | (refine Below.setCell ?_ (by first | omega | (simp <;> omega) | simp) _))); have l9a := cell_below_keep z9 s1; have l9b := cell_below_keep z9 s2; have l9c := cell_below_keep z9 a1; have l9d := cell_below_keep z9 a2))
          have HBe : Below w.heap.size w w9 := HB3.out.trans ((HX.out.2.2.2.2.trans (z9.mono hbs)).mono HB3.out.size)
          go_wp2_with fail
          exact bodyPost_ret (v := .bool true) (by simp [results, Try.results6, go_sem]) rfl ⟨rfl, HBe⟩
        · have hx00 : ¬ x = 0 := fun h => by have := hz.1 h; cases this
          have hx0b : (x == 0) = false := by simpa using hx00
          clear FIN hz
          go_region_held3 (fun W => W.cell? ⟨Sb, 0, none⟩ = some (.int .i64 ml) ∧ W.cell? ⟨Sb, 1, none⟩ = some (.int .i64 1) ∧ W.cell? ⟨Xa, 0, none⟩ = some (.int .i64 x) ∧ W.cell? ⟨Xa, 1, none⟩ = some (.int .i64 y)) (first | (go_keep; done) | ((with_reducible refine cell_below_keep (by with_reducible assumption) ?_); with_reducible assumption)) (first
            | ((go_at_call 31; (with_reducible refine ((c7 _ _ _ ?_).out).mono ?_); (focus ((exact HX.out.2.2.2.1.below (by repeat (first | assumption | exact Below.refl _ _ | (refine below_chain ?_ (by assumption) (by first | omega | (simp <;> omega) | simp)) | (refine Below.alloc ?_ (by first | omega | (simp <;> omega) | simp) _) | (apply below_drewN) | (apply below_drew) | (refine Below.setCell ?_ (by first | omega | (simp <;> omega) | simp) _)))); done)); rintro e w7 ⟨rfl, hb_w7⟩; have hs_w7 := hb_w7.size; (try simp at hs_w7)); have z7 : Below wr.heap.size wr w7 := (by repeat (first | assumption | exact Below.refl _ _ | (refine below_chain ?_ (by assumption) (by first | omega | (simp <;> omega) | simp)) | (refine Below.alloc ?_ (by first | omega | (simp <;> omega) | simp) _) | (apply below_drewN) | (apply below_drew) | (refine Below.setCell ?_ (by first | omega | (simp <;> omega) | simp) _))); have l7a := cell_below_keep z7 s1; have l7b := cell_below_keep z7 s2; have l7c := cell_below_keep z7 a1; have l7d := cell_below_keep z7 a2)
            | ((go_at_call 24; (with_reducible refine ((c8 _ ?_).out).mono ?_); (focus ((exact HX.out.2.2.1.below (by repeat (first | assumption | exact Below.refl _ _ | (refine below_chain ?_ (by assumption) (by first | omega | (simp <;> omega) | simp)) | (refine Below.alloc ?_ (by first | omega | (simp <;> omega) | simp) _) | (apply below_drewN) | (apply below_drew) | (refine Below.setCell ?_ (by first | omega | (simp <;> omega) | simp) _)))); done)); rintro e w8 ⟨rfl, hb_w8⟩; have hs_w8 := hb_w8.size; (try simp at hs_w8)); have z8 : Below wr.heap.size wr w8 := (by repeat (first | assumption | exact Below.refl _ _ | (refine below_chain ?_ (by assumption) (by first | omega | (simp <;> omega) | simp)) | (refine Below.alloc ?_ (by first | omega | (simp <;> omega) | simp) _) | (apply below_drewN) | (apply below_drew) | (refine Below.setCell ?_ (by first | omega | (simp <;> omega) | simp) _))); have l8a := cell_below_keep z8 s1; have l8b := cell_below_keep z8 s2; have l8c := cell_below_keep z8 a1; have l8d := cell_below_keep z8 a2)
            | ((go_at_call 30; (with_reducible refine ((c9 _).out).mono ?_); rintro e w9 ⟨rfl, hb_w9⟩; have hs_w9 := hb_w9.size; (try simp at hs_w9)); have z9 : Below wr.heap.size wr w9 := (by repeat (first | assumption | exact Below.refl _ _ | (refine below_chain ?_ (by assumption) (by first | omega | (simp <;> omega) | simp)) | (refine Below.alloc ?_ (by first | omega | (simp <;> omega) | simp) _) | (apply below_drewN) | (apply below_drew) | (refine Below.setCell ?_ (by first | omega | (simp <;> omega) | simp) _))); have l9a := cell_below_keep z9 s1; have l9b := cell_below_keep z9 s2; have l9c := cell_below_keep z9 a1; have l9d := cell_below_keep z9 a2))
          have HBe : Below w.heap.size w w9 := HB3.out.trans ((HX.out.2.2.2.2.trans (z9.mono hbs)).mono HB3.out.size)
          go_wp2_with fail
          exact bodyPost_ret (v := .bool true) (by simp [results, Try.results6, go_sem]) rfl ⟨rfl, HBe⟩
  · have c1 := fun w h => Lib.hid (iSpreadFree_no N u (some ⟨B, 0, none⟩) c m rs w h HM.out (by omega) hy)
    have c2 := fun w h => Lib.hid (sSpreadFree_no N u (some ⟨B, 0, none⟩) c m rs w h HM.out (by omega) hy)
    clear hy
    go_upto_region 5 with ((go_at_call 27; (with_reducible refine ((c1 _ ?_).out).mono ?_); (focus ((exact HR0.out); done)); rintro e wi ⟨rfl, hb_wi⟩; have hs_wi := hb_wi.size; (try simp at hs_wi)))
    obtain ⟨V1, Xa, hV, hX, hC, hBd, hXl⟩ := new_cell hb_wi 0 0 27
    rw [← hV, ← hX]
    have HB1 := Lib.hid (HB0.out.trans (hBd.mono HB0.out.size))
    have HR1 := Lib.hid (HR0.out.below hBd)
    have Ca1 := Lib.hid hC
    have hla := hC.lt
    clear hV hX hC hBd hXl hb_wi hs_wi HB0 HR0
    go_upto_region 6 with ((go_at_call 28; (with_reducible refine ((c2 _ ?_).out).mono ?_); (focus ((exact HR1.out); done)); rintro e wi ⟨rfl, hb_wi⟩; have hs_wi := hb_wi.size; (try simp at hs_wi)))
    obtain ⟨V2, Xb, hV, hX, hC, hBd, hXl⟩ := new_cell hb_wi 0 0 27
    rw [← hV, ← hX]
    have HB2 := Lib.hid (HB1.out.trans (hBd.mono HB1.out.size))
    have HR2 := Lib.hid (HR1.out.below hBd)
    have Ca2 := Lib.hid (Ca1.out.below hBd)
    have Cb2 := Lib.hid hC
    have hlb := hC.lt
    clear hV hX hC hBd hXl hb_wi hs_wi HB1 HR1 Ca1
    obtain ⟨ap, aq, -, -⟩ := Ca2.out
    obtain ⟨bp, bq, -, -⟩ := Cb2.out
    have HBe := HB2.out
    go_wp2_with fail
    exact bodyPost_ret (v := .bool true) (by simp [results, Try.results6, go_sem]) rfl ⟨rfl, HBe⟩

end Go.Proofs.Ytenllemaccacgaa.fnSpreadFree
