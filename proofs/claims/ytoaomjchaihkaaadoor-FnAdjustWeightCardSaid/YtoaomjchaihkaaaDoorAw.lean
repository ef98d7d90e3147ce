/-
  For every code the law FnAdjustWeight returns true: impl.AdjustHeights answers as the reference model does; with all weights doubled the heights are the same, and also without the last run if its rest is 0. Condition: the package's error variable holds the error that its initialiser lays (the card ties that to the program's text, pruned to the packages that the law loads); every list of bytes is taken.
-/
import Derived.Test.YtoaomjchaihkaaaDoorEl
import Derived.Test.YtoaomjchaihkaaaDoorDNs
import Derived.Test.YtoaomjchaihkaaaDoorNU
import Derived.Test.YtoaomjchaihkaaaDoorCode
namespace Go.Proofs.YtoaomjchaihkaaaDoor.fnAdjustWeight
open Go.ChangeShapes Go.WideShapes Go.ChangeAt Go.RowKit
set_option linter.unusedVariables false

/-- the weights of the first j runs turned -/
def part (g : Int → Int) (j : Nat) (rs : List Rn) : List Rn := reW g (rs.take j) ++ rs.drop j
section
variable {g : Int → Int} {j : Nat} {rs : List Rn} {r : Rn}
theorem part_zero : part g 0 rs = rs := by simp [part, reW]
theorem part_all (h : rs.length ≤ j) : part g j rs = reW g rs := by unfold part; rw [List.take_of_length_le h, List.drop_eq_nil_of_le h, List.append_nil]
theorem part_len : (part g j rs).length = rs.length := by unfold part; rw [List.length_append, reW_len, List.length_take, List.length_drop]; omega
theorem part_at (h : rs[j]? = some r) : (part g j rs)[j]? = some r := by
  have hj := (List.getElem?_eq_some_iff.1 h).1
  have e : (reW g (rs.take j)).length = j := by rw [reW_len, List.length_take]; omega
  unfold part
  rw [List.getElem?_append_right (by omega), e, Nat.sub_self, List.getElem?_drop]
  exact h
theorem part_set (h : rs[j]? = some r) : (part g j rs).set j { r with g := g r.g } = part g (j + 1) rs := by
  have hj := (List.getElem?_eq_some_iff.1 h).1
  have e : (reW g (rs.take j)).length = j := by rw [reW_len, List.length_take]; omega
  have hr : rs[j] = r := (List.getElem?_eq_some_iff.1 h).2
  unfold part
  rw [List.set_append_right _ _ (by omega), e, Nat.sub_self, List.drop_eq_getElem_cons hj, List.set_cons_zero, List.take_add_one, h]
  simp [reW]
end
theorem own_setG {w : World} {g : Nat} {T : TypeId} {n cap : Nat} {rs : List Rn} (h : Own w g T 4 n cap (flat rs)) {i : Nat} {r : Rn} (hi : rs[i]? = some r) (z : Int) : Own (w.setCell ⟨g, i * 4 + 3, none⟩ (.int .i64 z)) g T 4 n cap (flat (rs.set i { r with g := z })) := by
  have hlt := (List.getElem?_eq_some_iff.1 hi).1
  have hl := flat_len rs
  have := h.set (i * 4 + 3) z (by omega)
  rw [flat_set _ hlt]
  obtain ⟨h1, h2, h3, h4⟩ := flat_at hi
  have e : (flat rs).set (i * 4 + 3) z = (((((flat rs).set (i * 4) r.f).set (i * 4 + 1) r.t).set (i * 4 + 2) r.s).set (i * 4 + 3) z) := by
    have a1 : (flat rs).set (i * 4) r.f = flat rs := by
      apply List.ext_getElem?; intro x; rw [List.getElem?_set]; split
      · next e => subst e; rw [h1]; simp [hl]; omega
      · rfl
    have a2 : (flat rs).set (i * 4 + 1) r.t = flat rs := by
      apply List.ext_getElem?; intro x; rw [List.getElem?_set]; split
      · next e => subst e; rw [h2]; simp [hl]; omega
      · rfl
    have a3 : (flat rs).set (i * 4 + 2) r.s = flat rs := by
      apply List.ext_getElem?; intro x; rw [List.getElem?_set]; split
      · next e => subst e; rw [h3]; simp [hl]; omega
      · rfl
    rw [a1, a2, a3]
  rw [← e]
  exact this
theorem hqs_same {n : Nat} {rs rs' : List Rn} (hD : dT n rs ≠ 0) (hD' : dT n rs' ≠ 0) (h : Solves n rs' (dT n rs) (hT n rs)) : hqs n rs' (n + 1) = hqs n rs (n + 1) := by
  unfold hqs
  apply List.map_congr_left
  intro i hi
  have hi := List.mem_range.1 hi
  have hs := same_heights h hi
  obtain ⟨e1, e2⟩ := Quo.TL_val (N := hT n rs' i) (D := dT n rs') (N' := hT n rs i) (D' := dT n rs) hD' hD (by rw [Int.mul_comm (hT n rs i), hs, Int.mul_comm])
  rw [e1, e2]
theorem adj_some {N m : Nat} {rs : List Rn} (h : adjOk (N : Int) rs = true) (hN : 2 ≤ N) (hm : rs.length = m) : 1 ≤ m := by
  rcases Nat.eq_zero_or_pos m with h0 | h0
  · exfalso
    obtain rfl : rs = [] := List.length_eq_zero_iff.1 (by omega)
    obtain ⟨hw, -⟩ := adj_true (n := N - 1) h (by omega)
    have hn := (whole_iff.1 hw).1
    have := (whole_spn hn).1 hw (fun i => i ≠ 0) (by simp) (fun s _ hs => by simp [S0] at hs; simp [hs]) 1 (by omega)
    exact this (by decide)
  · exact h0
theorem dT_ne {N n : Nat} {rs : List Rn} (h : adjOk (N : Int) rs = true) (hNn : N = n + 1) : dT n rs ≠ 0 := by
  obtain ⟨hw, -⟩ := adj_true h hNn
  have hn := (whole_iff.1 hw).1
  have := dT_pos (n := n) (rs := rs) (by rw [← hNn]; exact hw) (by rw [← hNn]; exact hn)
  omega
theorem take_last : ∀ rs : List Rn, rs.eraseIdx (rs.length - 1) = rs.take (rs.length - 1)
  | [] => rfl
  | [a] => rfl
  | a :: b :: l => by
    have := take_last (b :: l)
    simp only [List.length_cons, Nat.add_sub_cancel] at this ⊢
    rw [List.eraseIdx_cons_succ, List.take_succ_cons, this]

set_option maxHeartbeats 8000000 in
set_option maxRecDepth 100000 in
theorem walk (len cap : Nat) (p : Option Addr) (w : World) (hl : len ≤ 1048576) (h : Hid (Code' w (.slice p len cap))) (he : Hid (ErrV w)) :
    Calls Tryd.prog 6 #[.slice p len cap] w fun e w' => e = .returned (.bool true) ∧ Below w.heap.size w w' := by
  have hl' : ¬ (1048576 : Int) < (len : Int) := by omega
  go_enter Tryd.func6, Tryd.ntmps6
  go_upto_region 4 with (go_at_call 11; (with_reducible refine (drawAdjHeights_is _ _ h).mono ?_); rintro e wd ⟨N, m, rs, P, ⟨c, hmc, rfl⟩, ⟨hmm, ⟨hN2, hN6⟩, hm8, hns⟩, hR, hb_wd⟩; have hs_wd := hb_wd.size; have HR := Lib.hid (show RunsE _ _ _ from ⟨hR, he.out.below hb_wd⟩); have HM := Lib.hid hmm; clear hR)
  clear h hns hmm
  cases hy : adjOk (N : Int) rs
  · have c1 := fun w h => Lib.hid (iHeights_no N (some ⟨P, 0, none⟩) c m rs w h HM.out (by omega) hy)
    have c2 := fun w h => Lib.hid (sHeights_no N (some ⟨P, 0, none⟩) c m rs w h HM.out (by omega) hy)
    clear hy
    go_wp2_with (first | (go_at_call 12; (with_reducible refine ((c1 _ ?_).out).mono ?_); (focus ((exact HR.out); done)); rintro e wi ⟨⟨q, d, rfl⟩, hb_wi⟩; have hs_wi := hb_wi.size; (try simp at hs_wi)) | (go_at_call 13; (with_reducible refine ((c2 _ ?_).out).mono ?_); (focus ((exact (HR.out.below hb_wi).runs); done)); rintro e ws ⟨⟨q2, rfl⟩, hb_ws⟩; have hs_ws := hb_ws.size; (try simp at hs_ws)) | (go_at_call 14; (with_reducible refine (sameQuos_nil _ _ _ _ _).mono ?_); rintro e wt ⟨rfl, hb_wt⟩; have hs_wt := hb_wt.size; (try simp at hs_wt)))
    exact bodyPost_ret (v := .bool true) (by simp [results, Tryd.results6, go_sem]) rfl ⟨rfl, (by repeat (first | assumption | exact Below.refl _ _ | (refine below_chain ?_ (by assumption) (by first | omega | (simp <;> omega) | simp)) | (refine Below.alloc ?_ (by first | omega | (simp <;> omega) | simp) _) | (apply below_drewN) | (apply below_drew) | (refine Below.setCell ?_ (by first | omega | (simp <;> omega) | simp) _)))⟩
  · obtain ⟨n, hNn⟩ : ∃ n, N = n + 1 := ⟨N - 1, by omega⟩
    have hm1 := adj_some hy hN2 HM.out
    have hD := dT_ne hy hNn
    have hn := (whole_iff.1 (adj_true hy hNn).1).1
    have hin : InN (n + 1) rs := by rw [← hNn]; exact nOk_in hn
    have hQ1 : (hqs n rs N).length = N := hqs_len _ _ _
    have c1 := fun w h => Lib.hid (iHeights_yes N n (some ⟨P, 0, none⟩) c m rs w h hy HM.out hNn)
    have c2 := fun w h => Lib.hid (sHeights_yes N n (some ⟨P, 0, none⟩) c m rs w h hy HM.out hNn)
    have hP : P < wd.heap.size := by
      obtain ⟨B, o, r, e, -, hB, -⟩ := HR.out.runs.at (i := 0) (by have := HM.out; omega)
      cases e; omega
    have HG : Hid (∀ r ∈ rs, 1 ≤ r.g ∧ r.g ≤ 9) := Lib.hid (fun r hr => by
      obtain ⟨i, hi⟩ := List.getElem?_of_mem hr
      obtain ⟨-, -, -, -, -, -, -, a, b⟩ := rOk_true ((nOk_true hn).2.2.2 i r hi)
      exact ⟨a, b⟩)
    -- doubled
    have HX : Hid (∀ (p : Option Addr) (c : Nat) (w : World), RunsE w p (reW (2 * ·) rs) → Calls Tryd.prog 12 #[.int .i64 N, .slice p m c] w fun e w' => ∃ q d b k, e = .returned (.tuple #[.slice q k d, .bool b]) ∧ (b = true → N = k ∧ QRead w' q (hqs n rs N)) ∧ Below w.heap.size w w') := Lib.hid (fun p c w h => by
      have hml : (reW (2 * ·) rs).length = m := by rw [reW_len]; exact HM.out
      cases ha : adjOk (N : Int) (reW (2 * ·) rs)
      · exact (iHeights_no N p c m _ w h hml (by omega) ha).mono (fun e w' ⟨⟨q, d, he⟩, hb⟩ => ⟨q, d, false, 0, he, fun h => (by cases h), hb⟩)
      · refine (iHeights_yes N n p c m _ w h ha hml hNn).mono (fun e w' ⟨g, d, he, hg, ho, hb⟩ => ⟨_, d, true, N, he, fun _ => ⟨rfl, ?_⟩, hb⟩)
        have e : hqs n (reW (2 * ·) rs) N = hqs n rs N := by rw [hNn]; exact hqs_same hD (dT_ne ha hNn) (dbl_solves hin)
        rw [e] at ho
        exact ho.quos)
    obtain ⟨r, hr⟩ : ∃ r, rs[m - 1]? = some r := ⟨_, List.getElem?_eq_getElem (by have := HM.out; omega)⟩
    have HE := fun w h => Lib.hid (iRest_yes N n (m - 1) (some ⟨P, 0, none⟩) c m rs r w h hy HM.out hNn hr)
    have HZ : Hid (∀ (w : World), RunsE w (some ⟨P, 0, none⟩) (rs.take (m - 1)) → Calls Tryd.prog 12 #[.int .i64 N, .slice (some ⟨P, 0, none⟩) (m - 1 : Nat) c] w fun e w' => ∃ q d b k, e = .returned (.tuple #[.slice q k d, .bool b]) ∧ (b = true → rsB n rs r = true → rsT n rs r = 0 → N = k ∧ QRead w' q (hqs n rs N)) ∧ Below w.heap.size w w') := Lib.hid (fun w h => by
      have hml : (rs.take (m - 1)).length = m - 1 := by rw [List.length_take, HM.out]; omega
      cases ha : adjOk (N : Int) (rs.take (m - 1))
      · exact (iHeights_no N _ c (m - 1) _ w h hml (by omega) ha).mono (fun e w' ⟨⟨q, d, he⟩, hb⟩ => ⟨q, d, false, 0, he, fun h => (by cases h), hb⟩)
      · refine (iHeights_yes N n _ c (m - 1) _ w h ha hml hNn).mono (fun e w' ⟨g, d, he, hg, ho, hb⟩ => ⟨_, d, true, N, he, fun _ hB0 hT0 => ⟨rfl, ?_⟩, hb⟩)
        obtain ⟨hq1, hq2⟩ : Quo.qO (hT n rs r.t.toNat - hT n rs r.f.toNat) (dT n rs) = true ∧ Quo.qO (rest n rs r) (dT n rs) = true := by
          unfold rsB at hB0; simpa using hB0
        have hT1 : rsT n rs r = Quo.T (rest n rs r) (dT n rs) := by unfold rsT vT; rw [if_pos hq1, if_pos hq2]
        have h0 : rest n rs r = 0 := Quo.val_zero (Quo.Val.of hD hq2) (by rw [← hT1]; exact hT0)
        have et : rs.take (m - 1) = rs.eraseIdx (m - 1) := by
          have hml : m = rs.length := HM.out.symm
          rw [hml]; exact (take_last rs).symm
        have e : hqs n (rs.take (m - 1)) N = hqs n rs N := by
          rw [hNn]
          refine hqs_same hD (dT_ne ha hNn) ?_
          rw [et]
          exact drop_solves hin hr h0
        rw [e] at ho
        exact ho.quos)
    have HL : Hid (rsB n rs r = true → rsT n rs r = 0 → rsL n rs r = 1) := Lib.hid (fun hB0 hT0 => by
      obtain ⟨hq1, hq2⟩ : Quo.qO (hT n rs r.t.toNat - hT n rs r.f.toNat) (dT n rs) = true ∧ Quo.qO (rest n rs r) (dT n rs) = true := by
        unfold rsB at hB0; simpa using hB0
      have hT1 : rsT n rs r = Quo.T (rest n rs r) (dT n rs) := by unfold rsT vT; rw [if_pos hq1, if_pos hq2]
      have hL1 : rsL n rs r = Quo.L (rest n rs r) (dT n rs) := by unfold rsL vL; rw [if_pos hq1, if_pos hq2]
      have v := Quo.Val.of hD hq2
      rw [← hT1, ← hL1, hT0] at v
      have h0 : rest n rs r = 0 := Quo.val_zero v rfl
      rw [h0] at v
      exact (Quo.zero_val v).2)
    obtain ⟨qs, hqs'⟩ : ∃ qs, hqs n rs N = qs := ⟨_, rfl⟩
    obtain ⟨x, hx⟩ : ∃ x, rsT n rs r = x := ⟨_, rfl⟩
    obtain ⟨y, hy'⟩ : ∃ x, rsL n rs r = x := ⟨_, rfl⟩
    obtain ⟨b, hb⟩ : ∃ x, rsB n rs r = x := ⟨_, rfl⟩
    rw [hqs'] at c1 c2 HX HZ hQ1
    rw [hx, hy', hb] at HE HL
    rw [hx, hb] at HZ
    obtain ⟨J, hJ⟩ : ∃ J, m - 1 = J := ⟨_, rfl⟩
    rw [hJ] at HE HZ
    have hJc : J ≤ c := by omega
    have hJc' : (J : Int) ≤ (c : Int) := by omega
    have qJ : IntKind.i64.wrap ((m : Int) - 1) = (J : Int) := by rw [IntKind.wrap_i64]; omega
    have HQ := Lib.hid hQ1
    clear hqs' hx hy' hb hD hin hn hy hr hNn hQ1
    go_upto_region 6 with (first | ((go_at_call 12; (with_reducible refine ((c1 _ ?_).out).mono ?_); (focus ((exact HR.out); done)); rintro e wi ⟨gi, ci, rfl, hgi, oi, hb_wi⟩; have hs_wi := hb_wi.size; (try simp at hs_wi)); have OI := Lib.hid oi.quos; clear oi) | ((go_at_call 13; (with_reducible refine ((c2 _ ?_).out).mono ?_); (focus ((exact (HR.out.below hb_wi).runs); done)); rintro e ws ⟨gs, cs, rfl, hgs, os, hb_ws⟩; have hs_ws := hb_ws.size; (try simp at hs_ws)); have OS := Lib.hid os.quos; clear os))
    go_upto_region 8 with ((go_at_call 14; (with_reducible refine (sameQuos_is _ _ _ _ N qs _ ?_ ?_ HQ.out (by omega)).mono ?_); (focus ((exact OI.out.below hb_ws); done)); (focus ((exact OS.out); done)); rintro e wt ⟨rfl, hb_wt⟩; have hs_wt := hb_wt.size; (try simp at hs_wt)))
    have hd : Below wd.heap.size wd wt := (by repeat (first | assumption | exact Below.refl _ _ | (refine below_chain ?_ (by assumption) (by first | omega | (simp <;> omega) | simp)) | (refine Below.alloc ?_ (by first | omega | (simp <;> omega) | simp) _) | (apply below_drewN) | (apply below_drew) | (refine Below.setCell ?_ (by first | omega | (simp <;> omega) | simp) _)))
    have hBW := hb_wd.trans (hd.mono hs_wd)
    have HBW := Lib.hid hBW
    have hsW := hBW.size
    have HR2 := Lib.hid (HR.out.below hd)
    have HO2 := Lib.hid ((OI.out.below hb_ws).below hb_wt)
    have hP2 : P < wt.heap.size := by have := hd.size; omega
    clear c1 c2 HR OI OS hd hBW hb_wd hb_wi hb_ws hb_wt hP hgi hgs hs_wd hs_wi hs_ws hs_wt
    have hfl : (flat rs).length = m * 4 := by rw [flat_len, HM.out]
    have HF := Lib.hid hfl
    clear hfl
    go_upto_region 9 with (at_builtin; refine wp_append _ rfl _ _ 23 rfl 36 _ 4 32 Tryd.underlying23 info_run rfl (by decide) (by decide) _ 0 0 [] rfl (Own.empty _ _ 4) _ _ _ (flat rs) rfl HF.out (runs_cells (HR2.out.runs.alloc _)) (by omega) ?_; intro g1 cap1 wb hown hg hloc hsz; simp only [Nat.zero_add, List.nil_append] at hown ⊢; have hg1 : wt.heap.size ≤ g1 := (by rcases hloc with rfl | rfl <;> simp); have hb_wb : Below wt.heap.size wt wb := below_gr ((Below.refl _ _).alloc (Nat.le_refl _) _) hg (Nat.le_refl _) (by simp); have hs_wb := hb_wb.size; have hlo1 := hown.lt; have HO1 := Lib.hid hown; clear hown hg hloc)
    have HR3 := Lib.hid (HR2.out.below hb_wb)
    have HB3 := Lib.hid (HBW.out.trans (hb_wb.mono hsW))
    have HO3 := Lib.hid (HO2.out.below hb_wb)
    have HBB0 := Lib.hid hb_wb
    clear HF HR3 HB3 HO3 hb_wb
    go_wp2_with fail
    go_loopw [10] (fun i wr => ∃ j : Nat, j ≤ m ∧ i = .int .i64 j ∧ Own wr g1 36 4 m cap1 (flat (part (2 * ·) j rs)) ∧ Below wt.heap.size wb wr) (fun i _ => m - (intOf i).toNat)
    case atStart => exact ⟨0, Nat.zero_le _, rfl, by rw [part_zero]; exact HO1.out, Below.refl _ _⟩
    case round =>
      rename World => wr
      obtain ⟨j, hj, rfl, ho1, hbr⟩ := hrel
      have hbs := hbr.size
      by_cases hlt : j < m
      · obtain ⟨r', hr'⟩ : ∃ r', rs[j]? = some r' := ⟨_, List.getElem?_eq_getElem (by have := HM.out; omega)⟩
        obtain ⟨rg1, rg9⟩ := HG.out r' (List.mem_of_getElem? hr')
        have hf1 := ho1.frozen (j * 4 + 3)
        have y3 := (ho1.runAt (part_at hr')).2.2.2
        have HO := Lib.hid (And.intro ho1 (And.intro hbr hr'))
        have hlt' : (j : Int) < (m : Int) := by omega
        clear ho1 hbr hr'
        go_wp2_with fail
        obtain ⟨ho1, hbr, hr'⟩ := HO.out
        refine ⟨⟨j + 1, by omega, by go_num, ?_, ?_⟩, by simp [intOf]; omega⟩
        · rw [← part_set (g := (2 * ·)) hr']
          exact own_setG ho1 (part_at hr') (2 * r'.g)
        · exact Below.setCell hbr (show wt.heap.size ≤ (⟨g1, j * 4 + 3, none⟩ : Addr).block from hg1) _
      · have e : j = m := by omega
        subst e
        rw [part_all (Nat.le_of_eq HM.out)] at ho1
        have HOx := Lib.hid (show RunsE _ _ _ from ⟨ho1.runs, (HR2.out.below (HBB0.out.trans hbr)).err⟩)
        have hdr := HBB0.out.trans hbr
        have HRr := Lib.hid (HR2.out.below hdr)
        have HBr := Lib.hid (HBW.out.trans (hdr.mono hsW))
        have HOr := Lib.hid (HO2.out.below hdr)
        have hsr := HBr.out.size
        clear HO1 HO2 HR2 HBW HBB0 ho1 hbr hdr hbs HG hj hlt
        go_upto_region 14 with ((go_at_call 12; (with_reducible refine (HX.out _ _ _ ?_).mono ?_); (focus ((exact HOx.out); done)); rintro e wx ⟨q1, d1, b1, k1, rfl, hb1, hb_wx⟩; have hs_wx := hb_wx.size; (try simp at hs_wx)))
        have HB1 := Lib.hid hb1
        clear hb1 HX HOx
        cases b1
        · have hVr : Below wr.heap.size wr wx := hb_wx
          clear hb_wx hs_wx
          go_upto_region 17 with fail
          have HRV := Lib.hid (HRr.out.below hVr)
          have HBV := Lib.hid (HBr.out.trans (hVr.mono hsr))
          have hsV := HBV.out.size
          have HOV := Lib.hid (HOr.out.below hVr)
          clear hVr HRr HBr HOr hsr
          go_upto_region 18 with ((go_at_call 16; (with_reducible refine ((HE _ ?_).out).mono ?_); (focus ((exact HRV.out); done)); rintro e wi ⟨rfl, hb_wi⟩; have hs_wi := hb_wi.size; (try simp at hs_wi)))
          have hX := Cell2.new wi x y 31
          have hal : Below wi.heap.size wi (wi.alloc (.cells #[.int .i64 x, .int .i64 y] 31)) := (Below.refl _ _).alloc (Nat.le_refl _) _
          have hBd := hb_wi.trans (hal.mono hs_wi)
          obtain ⟨U, hV⟩ : ∃ V, V = wi.alloc (.cells #[.int .i64 x, .int .i64 y] 31) := ⟨_, rfl⟩
          obtain ⟨XU, hXe⟩ : ∃ X, X = wi.heap.size := ⟨_, rfl⟩
          rw [← hV] at hX hBd ⊢
          rw [← hXe] at hX ⊢
          have HU := Lib.hid (And.intro hX hBd)
          clear hal hX hBd hV hXe hb_wi hs_wi HE
          go_upto_region 19 with ((go_at_call 12; (with_reducible refine (HZ.out _ ?_).mono ?_); (focus ((exact ⟨runs_take (HRV.out.below HU.out.2).runs _, (HRV.out.below HU.out.2).err⟩); done)); rintro e wz ⟨q2, d2, b2, k2, rfl, hb2, hb_wz⟩; have hs_wz := hb_wz.size; (try simp at hs_wz)))
          obtain ⟨z1, z2, z3, z4⟩ := HU.out.1.below hb_wz
          have hUz := HU.out.2.trans (hb_wz.mono HU.out.2.size)
          have HBz := Lib.hid (HBV.out.trans (hUz.mono hsV))
          have hsz := HBz.out.size
          have HOz := Lib.hid (HOV.out.below hUz)
          have HB2 := Lib.hid hb2
          clear hUz hb_wz hs_wz HBV HOV HU HRV HZ hb2
          cases b
          · first
              | (have hund : undef = Value.tuple #[] := rfl; go_region_with fail)
              | fail
            all_goals
              have HBB := Lib.hid (HBz.out.trans (((below_drew (Below.refl wz.heap.size wz))).mono hsz))
              go_wp2_with fail
              exact bodyPost_ret (v := .bool true) (by simp [results, Tryd.results6, go_sem]) rfl ⟨rfl, HBB.out⟩
          · cases b2
            · first
                | (have hund : undef = Value.tuple #[] := rfl; go_region_with fail)
                | fail
              all_goals
                have HBB := Lib.hid (HBz.out.trans (((below_drew (Below.refl wz.heap.size wz))).mono hsz))
                go_wp2_with fail
                exact bodyPost_ret (v := .bool true) (by simp [results, Tryd.results6, go_sem]) rfl ⟨rfl, HBB.out⟩
            · by_cases hx0 : x = 0
              · obtain ⟨rfl, hq2⟩ := HB2.out rfl rfl hx0
                obtain rfl : y = 1 := HL.out rfl hx0
                have HQ2 := Lib.hid hq2
                clear hq2 HB2 HL
                subst hx0
                first
                  | go_region_with (first
                      | (go_at_call 15; (with_reducible refine (whole_q _ _).mono ?_); rintro e w1 ⟨rfl, hb_w1⟩; have hV1 : Below wz.heap.size wz w1 := (below_drew (Below.refl _ _)).trans hb_w1; have l1 := cell_below_keep hV1 z1; have l2 := cell_below_keep hV1 z2)
                      | ((go_at_call 14; (with_reducible refine (sameQuos_is _ _ _ _ N qs _ ?_ ?_ HQ.out (by omega)).mono ?_); (focus ((exact HQ2.out.below hV1); done)); (focus ((exact HOz.out.below hV1); done)); rintro e w2 ⟨rfl, hb_w2⟩; have hs_w2 := hb_w2.size; (try simp at hs_w2)); have hV2 : Below wz.heap.size wz w2 := hV1.trans (hb_w2.mono hV1.size)))
                  | fail
                all_goals
                  have HBB := Lib.hid (HBz.out.trans ((hV2).mono hsz))
                  go_wp2_with fail
                  exact bodyPost_ret (v := .bool true) (by simp [results, Tryd.results6, go_sem]) rfl ⟨rfl, HBB.out⟩
              · first
                  | (have hund : undef = Value.tuple #[] := rfl; go_region_with (go_at_call 15; (with_reducible refine (whole_q _ _).mono ?_); rintro e w1 ⟨rfl, hb_w1⟩; have hV1 : Below wz.heap.size wz w1 := (below_drew (Below.refl _ _)).trans hb_w1; have l1 := cell_below_keep hV1 z1; have l2 := cell_below_keep hV1 z2))
                  | fail
                all_goals
                  have HBB := Lib.hid (HBz.out.trans ((hV1).mono hsz))
                  go_wp2_with fail
                  exact bodyPost_ret (v := .bool true) (by simp [results, Tryd.results6, go_sem]) rfl ⟨rfl, HBB.out⟩
        · obtain ⟨rfl, hq1⟩ := HB1.out rfl
          have HQ1 := Lib.hid hq1
          clear hq1
          go_upto_region 17 with ((go_at_call 14; (with_reducible refine (sameQuos_is _ _ _ _ N qs _ ?_ ?_ HQ.out (by omega)).mono ?_); (focus ((exact HQ1.out); done)); (focus ((exact HOr.out.below hb_wx); done)); rintro e wy ⟨rfl, hb_wy⟩; have hs_wy := hb_wy.size; (try simp at hs_wy)))
          have hVr : Below wr.heap.size wr wy := hb_wx.trans (hb_wy.mono hs_wx)
          clear hb_wx hs_wx hb_wy hs_wy HQ1
          have HRV := Lib.hid (HRr.out.below hVr)
          have HBV := Lib.hid (HBr.out.trans (hVr.mono hsr))
          have hsV := HBV.out.size
          have HOV := Lib.hid (HOr.out.below hVr)
          clear hVr HRr HBr HOr hsr
          go_upto_region 18 with ((go_at_call 16; (with_reducible refine ((HE _ ?_).out).mono ?_); (focus ((exact HRV.out); done)); rintro e wi ⟨rfl, hb_wi⟩; have hs_wi := hb_wi.size; (try simp at hs_wi)))
          have hX := Cell2.new wi x y 31
          have hal : Below wi.heap.size wi (wi.alloc (.cells #[.int .i64 x, .int .i64 y] 31)) := (Below.refl _ _).alloc (Nat.le_refl _) _
          have hBd := hb_wi.trans (hal.mono hs_wi)
          obtain ⟨U, hV⟩ : ∃ V, V = wi.alloc (.cells #[.int .i64 x, .int .i64 y] 31) := ⟨_, rfl⟩
          obtain ⟨XU, hXe⟩ : ∃ X, X = wi.heap.size := ⟨_, rfl⟩
          rw [← hV] at hX hBd ⊢
          rw [← hXe] at hX ⊢
          have HU := Lib.hid (And.intro hX hBd)
          clear hal hX hBd hV hXe hb_wi hs_wi HE
          go_upto_region 19 with ((go_at_call 12; (with_reducible refine (HZ.out _ ?_).mono ?_); (focus ((exact ⟨runs_take (HRV.out.below HU.out.2).runs _, (HRV.out.below HU.out.2).err⟩); done)); rintro e wz ⟨q2, d2, b2, k2, rfl, hb2, hb_wz⟩; have hs_wz := hb_wz.size; (try simp at hs_wz)))
          obtain ⟨z1, z2, z3, z4⟩ := HU.out.1.below hb_wz
          have hUz := HU.out.2.trans (hb_wz.mono HU.out.2.size)
          have HBz := Lib.hid (HBV.out.trans (hUz.mono hsV))
          have hsz := HBz.out.size
          have HOz := Lib.hid (HOV.out.below hUz)
          have HB2 := Lib.hid hb2
          clear hUz hb_wz hs_wz HBV HOV HU HRV HZ hb2
          cases b
          · first
              | (have hund : undef = Value.tuple #[] := rfl; go_region_with fail)
              | fail
            all_goals
              have HBB := Lib.hid (HBz.out.trans (((below_drew (Below.refl wz.heap.size wz))).mono hsz))
              go_wp2_with fail
              exact bodyPost_ret (v := .bool true) (by simp [results, Tryd.results6, go_sem]) rfl ⟨rfl, HBB.out⟩
          · cases b2
            · first
                | (have hund : undef = Value.tuple #[] := rfl; go_region_with fail)
                | fail
              all_goals
                have HBB := Lib.hid (HBz.out.trans (((below_drew (Below.refl wz.heap.size wz))).mono hsz))
                go_wp2_with fail
                exact bodyPost_ret (v := .bool true) (by simp [results, Tryd.results6, go_sem]) rfl ⟨rfl, HBB.out⟩
            · by_cases hx0 : x = 0
              · obtain ⟨rfl, hq2⟩ := HB2.out rfl rfl hx0
                obtain rfl : y = 1 := HL.out rfl hx0
                have HQ2 := Lib.hid hq2
                clear hq2 HB2 HL
                subst hx0
                first
                  | go_region_with (first
                      | (go_at_call 15; (with_reducible refine (whole_q _ _).mono ?_); rintro e w1 ⟨rfl, hb_w1⟩; have hV1 : Below wz.heap.size wz w1 := (below_drew (Below.refl _ _)).trans hb_w1; have l1 := cell_below_keep hV1 z1; have l2 := cell_below_keep hV1 z2)
                      | ((go_at_call 14; (with_reducible refine (sameQuos_is _ _ _ _ N qs _ ?_ ?_ HQ.out (by omega)).mono ?_); (focus ((exact HQ2.out.below hV1); done)); (focus ((exact HOz.out.below hV1); done)); rintro e w2 ⟨rfl, hb_w2⟩; have hs_w2 := hb_w2.size; (try simp at hs_w2)); have hV2 : Below wz.heap.size wz w2 := hV1.trans (hb_w2.mono hV1.size)))
                  | fail
                all_goals
                  have HBB := Lib.hid (HBz.out.trans ((hV2).mono hsz))
                  go_wp2_with fail
                  exact bodyPost_ret (v := .bool true) (by simp [results, Tryd.results6, go_sem]) rfl ⟨rfl, HBB.out⟩
              · first
                  | (have hund : undef = Value.tuple #[] := rfl; go_region_with (go_at_call 15; (with_reducible refine (whole_q _ _).mono ?_); rintro e w1 ⟨rfl, hb_w1⟩; have hV1 : Below wz.heap.size wz w1 := (below_drew (Below.refl _ _)).trans hb_w1; have l1 := cell_below_keep hV1 z1; have l2 := cell_below_keep hV1 z2))
                  | fail
                all_goals
                  have HBB := Lib.hid (HBz.out.trans ((hV1).mono hsz))
                  go_wp2_with fail
                  exact bodyPost_ret (v := .bool true) (by simp [results, Tryd.results6, go_sem]) rfl ⟨rfl, HBB.out⟩

end Go.Proofs.YtoaomjchaihkaaaDoor.fnAdjustWeight
