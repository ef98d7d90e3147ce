/-
  What the draws of the laws on trees give: a net of at most eight runs, and a list of at most eight indexes, by new memory alone.
-/
import Derived.Test.YtgbnnepbnahecaaDNg
import Derived.Test.YtgbnnepbnahecaaDNe
import Derived.Test.YtgbnnepbnahecaaTrc
namespace Go.Proofs.Ytgbnnepbnahecaa
open Go.RowKit
set_option linter.unusedVariables false

/-- what the draw of a net and a list gives -/
def TreeOf (w : World) (N m k : Nat) (rs : List Rn) (T : List Int) (p q : Nat) (w' : World) : Prop := (rs.length = m ∧ T.length = k ∧ (2 ≤ N ∧ N ≤ 6) ∧ m ≤ 8 ∧ k ≤ 8) ∧ Runs w' (some ⟨p, 0, none⟩) rs ∧ Ints w' (some ⟨q, 0, none⟩) T ∧ Below w.heap.size w w'

set_option maxHeartbeats 8000000 in
set_option maxRecDepth 100000 in
theorem drawTree_is (v : Value) (w : World) (h : Hid (Code' w v)) :
    Calls Try.prog 14 #[v] w fun e w' => ∃ (N m k : Nat) (rs : List Rn) (T : List Int) (p q : Nat), (∃ c d, e = .returned (.tuple #[.int .i64 N, .slice (some ⟨p, 0, none⟩) m c, .slice (some ⟨q, 0, none⟩) k d])) ∧ TreeOf w N m k rs T p q w' := by
  have net_at : ∀ R wz, Rdr 0 wz R → Calls Try.prog 44 #[.pointer (some ⟨R, 0, none⟩), .int .i64 5] wz fun e w' => ∃ (N : Nat) (rs : List Rn) (g cap m : Nat), e = .returned (.tuple #[.int .i64 N, .slice (some ⟨g, 0, none⟩) m cap]) ∧ rs.length = m ∧ (2 ≤ N ∧ N ≤ 6) ∧ m ≤ 8 ∧ RunsIn wz w' R g cap rs ∧ Rdr 60 w' R :=
    fun R w h => (net5_is R w h).mono fun e w' ⟨N, rs, g, cap, he, hN, hl, hr, hR⟩ => ⟨N, rs, g, cap, rs.length, he, rfl, hN, hl, hr, hR⟩
  go_enter Try.func14, Try.ntmps14
  go_wp2_with (go_at_call 43; (with_reducible refine (open_any _ _ h).mono ?_); rintro e wo ⟨rfl, hR_wo, hb_wo, hz_wo⟩; have hs_wo := hb_wo.size; clear hz_wo)
  obtain ⟨R, hRe⟩ : ∃ R, R = w.heap.size := ⟨_, rfl⟩
  rw [← hRe] at hR_wo ⊢
  have hwR : w.heap.size ≤ R := by omega
  clear hRe h
  have hRlt := rdr_lt hR_wo
  go_upto_region 3 with (go_at_call 44; (with_reducible refine (net_at R _ hR_wo).mono ?_); rintro e wn ⟨N, rs, g, cap, m, rfl, hm, ⟨hN2, hN6⟩, hm8, hri, hR_wn⟩; have hs_wn := hri.2.2.size; have hlg := hri.2.1.lt; have hgw := hri.1; have HI := Lib.hid (And.intro hri (And.intro hR_wn hm)); clear hri hm)
  have hgR : g ≠ R := by omega
  clear net_at hR_wo
  have HM := Lib.hid HI.out.2.2
  obtain ⟨b, hb⟩ : ∃ b, nWhole N rs = b := ⟨_, rfl⟩
  cases b
  · have c1 := Lib.hid (sFirst_no N m (some ⟨g, 0, none⟩) cap rs wn HI.out.1.2.1.runs HI.out.2.2 (by omega) hb)
    go_upto_region 10 with (go_at_call 21; (with_reducible refine (c1.out).mono ?_); rintro e wt ⟨⟨gt, rfl⟩, hb_wt⟩; have hs_wt := hb_wt.size)
    have HQ : Hid (RunsIn wo wt R g cap rs ∧ Rdr (61 + 0) wt R) := Lib.hid (And.intro (HI.out.1.below hb_wt) (rdr_mono (rdr_chain HI.out.2.1 hb_wt) (by omega)))
    have HE := Lib.hid (Own.empty wt 3 1)
    clear c1 HI hR_wn hb_wt hb
    go_wp2_with fail
    go_loopw [11, 12] (fun v i wr => ∃ (j gh ch k : Nat) (L : List Int), j ≤ m ∧ i = .int .i64 j ∧ v = .slice (some ⟨gh, 0, none⟩) k ch ∧ L.length = k ∧ k ≤ j ∧ (wo.heap.size ≤ gh ∧ gh ≠ g) ∧ Own wr gh 3 1 k ch L ∧ RunsIn wo wr R g cap rs ∧ Rdr (61 + j) wr R) (fun _ i _ => m - (intOf i).toNat)
    case atStart => exact ⟨0, _, _, 0, [], Nat.zero_le _, rfl, rfl, rfl, Nat.le_refl _, ⟨by omega, by omega⟩, HE.out, HQ.out.1.alloc _, rdr_alloc HQ.out.2 _⟩
    case round =>
      clear HE HQ
      obtain ⟨j, gh, ch, k, L, hj, rfl, rfl, hLk, hkj, ⟨hgh, hghg⟩, how, hri, hrd⟩ := hrel
      have hbs := hri.2.2.size
      have hlo := how.lt
      have hlg2 := hri.2.1.lt
      have hghR : gh ≠ R := by omega
      have HO := Lib.hid (And.intro how (And.intro hri hLk))
      clear how hri hLk
      by_cases hlt : j < m
      · go_wp2_with (first | (go_at_call 45; (with_reducible refine (pick_any (61 + j) R (2) _ ?_ (by omega) (by omega) (by omega)).mono ?_); (focus ((repeat (first | with_reducible assumption | (with_reducible refine rdr_drewN ?_ _) | (with_reducible refine rdr_drew ?_) | (with_reducible refine rdr_alloc ?_ _) | (with_reducible refine rdr_setCell ?_ (by first | omega | (simp <;> omega) | simp) _) | (with_reducible refine rdr_chain ?_ (by with_reducible assumption)))); done)); rintro e wp ⟨m_wp, hm0_wp, hm1_wp, rfl, hR_wp, hg_wp, hq_wp⟩; have hs_wp := Nat.le_of_eq hq_wp; have ht_wp := Nat.le_of_eq hq_wp.symm; (try simp at hs_wp); (try simp at ht_wp); clear hq_wp) | (at_builtin; refine wp_append _ rfl _ _ 24 rfl 3 _ 1 8 Try.underlying24 info_int rfl (by decide) (by decide) _ k ch L rfl ((HO.out.1.grown hg_wp hghR).alloc _) _ _ _ [(j : Int)] rfl rfl (one_cell _ _ _) (by omega) ?_; intro g' cap' w' hown hgr hloc hsz; have HN := Lib.hid (And.intro hown (And.intro hgr hloc)); clear hown hgr hloc))
        · go_roundw
          case rel =>
            obtain ⟨hown, hgr, hloc⟩ := HN.out
            have hri2 := (HO.out.2.1.moved hg_wp hgR).alloc (.cells #[.int .i64 j] 3)
            have hg' : wo.heap.size ≤ g' ∧ g' ≠ g := by
              rcases hloc with rfl | rfl
              · exact ⟨hgh, hghg⟩
              · simp; omega
            exact ⟨j + 1, g', cap', k + 1, L ++ [(j : Int)], by omega, by go_num, rfl, by simp [HO.out.2.2], by omega, hg', hown, ⟨hri2.1, hri2.2.1.grown hgr (by omega), gb_own hri2.2.2 hgr hgh⟩, rdr_mono (rdr_own (rdr_alloc hR_wp _) hgr (by omega)) (by omega)⟩
          case measure => simp [intOf]; omega
        · go_roundw
          case rel => exact ⟨j + 1, gh, ch, k, L, by omega, by go_num, rfl, HO.out.2.2, by omega, ⟨hgh, hghg⟩, HO.out.1.grown hg_wp hghR, HO.out.2.1.moved hg_wp hgR, rdr_mono hR_wp (by omega)⟩
          case measure => simp [intOf]; omega
      · have e : j = m := by omega
        subst e
        go_wp2_with fail
        exact bodyPost_ret (v := .tuple #[.int .i64 N, .slice (some ⟨g, 0, none⟩) j cap, .slice (some ⟨gh, 0, none⟩) k ch]) (by simp [results, Try.results14, go_sem]) rfl ⟨N, j, k, rs, L, g, gh, ⟨cap, ch, rfl⟩, ⟨HM.out, HO.out.2.2, ⟨hN2, hN6⟩, hm8, by omega⟩, HO.out.2.1.2.1.runs, HO.out.1.ints, below_gb hb_wo HO.out.2.1.2.2 hwR hb_wo.size⟩
  · have c1 := Lib.hid (sFirst_yes N m (some ⟨g, 0, none⟩) cap rs wn HI.out.1.2.1.runs HI.out.2.2 hb)
    have hft := first_tree hb
    go_upto_region 4 with (go_at_call 21; (with_reducible refine (c1.out).mono ?_); rintro e wt ⟨gt, ct, kt, rfl, hkt, hgt, ot, hb_wt⟩; have hs_wt := hb_wt.size)
    have HV := Lib.hid (And.intro (HI.out.1.below hb_wt) (rdr_chain HI.out.2.1 hb_wt))
    have hkl : kt + 1 = N := by have := hft.len; omega
    have hlt0 := ot.lt
    have hgtg : gt ≠ g := by omega
    have hgtR : gt ≠ R := by omega
    have hgw2 : wo.heap.size ≤ gt := by omega
    have HT := Lib.hid (And.intro ot (And.intro hkt hft.asc))
    generalize firstT N rs rs.length = T at HT
    clear c1 HI hR_wn hb_wt hb ot hkt hft
    have hrd0 := HV.out.2
    go_upto_region 5 with ((go_at_call 45; (with_reducible refine (pick_any (60) R (4) _ ?_ (by omega) (by omega) (by omega)).mono ?_); (focus ((repeat (first | with_reducible assumption | (with_reducible refine rdr_drewN ?_ _) | (with_reducible refine rdr_drew ?_) | (with_reducible refine rdr_alloc ?_ _) | (with_reducible refine rdr_setCell ?_ (by first | omega | (simp <;> omega) | simp) _) | (with_reducible refine rdr_chain ?_ (by with_reducible assumption)))); done)); rintro e wp ⟨m_wp, hm0_wp, hm1_wp, rfl, hR_wp, hg_wp, hq_wp⟩; have hs_wp := Nat.le_of_eq hq_wp; have ht_wp := Nat.le_of_eq hq_wp.symm; (try simp at hs_wp); (try simp at ht_wp); clear hq_wp))
    · have HX := Lib.hid (And.intro (HV.out.1.moved hg_wp hgR) (And.intro hR_wp (HT.out.1.grown hg_wp hgtR)))
      clear HV hg_wp hR_wp hrd0
      have hlx := HX.out.2.2.lt
      have hrx := HX.out.2.1
      have hgx := HX.out.1.2.1.lt
      go_upto_region 7 with (first | (go_at_call 45; (with_reducible refine (pick_any (61) R (3) _ ?_ (by omega) (by omega) (by omega)).mono ?_); (focus ((repeat (first | with_reducible assumption | (with_reducible refine rdr_drewN ?_ _) | (with_reducible refine rdr_drew ?_) | (with_reducible refine rdr_alloc ?_ _) | (with_reducible refine rdr_setCell ?_ (by first | omega | (simp <;> omega) | simp) _) | (with_reducible refine rdr_chain ?_ (by with_reducible assumption)))); done)); rintro e wq ⟨m_wq, hm0_wq, hm1_wq, rfl, hR_wq, hg_wq, hq_wq⟩; have hs_wq := Nat.le_of_eq hq_wq; have ht_wq := Nat.le_of_eq hq_wq.symm; (try simp at hs_wq); (try simp at ht_wq); clear hq_wq) | (go_at_call 45; (with_reducible refine (pick_any (62) R ((kt : Int)) _ ?_ (by omega) (by omega) (by omega)).mono ?_); (focus ((repeat (first | with_reducible assumption | (with_reducible refine rdr_drewN ?_ _) | (with_reducible refine rdr_drew ?_) | (with_reducible refine rdr_alloc ?_ _) | (with_reducible refine rdr_setCell ?_ (by first | omega | (simp <;> omega) | simp) _) | (with_reducible refine rdr_chain ?_ (by with_reducible assumption)))); done)); rintro e wr ⟨m_wr, hm0_wr, hm1_wr, rfl, hR_wr, hg_wr, hq_wr⟩; have hs_wr := Nat.le_of_eq hq_wr; have ht_wr := Nat.le_of_eq hq_wr.symm; (try simp at hs_wr); (try simp at ht_wr); clear hq_wr))
      · obtain ⟨j, hj⟩ : ∃ j : Nat, m_wr = (j : Int) := ⟨m_wr.toNat, by omega⟩
        subst hj
        have hjk : j < kt := by omega
        obtain ⟨z, hz⟩ : ∃ z, T[j]? = some z := ⟨_, List.getElem?_eq_getElem (by have := HT.out.2.1; omega)⟩
        obtain ⟨z0, z1⟩ := HT.out.2.2.rng z (List.mem_of_getElem? hz)
        have z2 : z ≤ 8 := by have := HM.out; omega
        have HZ := Lib.hid hz
        have or := (HX.out.2.2.grown hg_wq hgtR).grown hg_wr hgtR
        have x0 := or.cells hz
        have f0 := or.frozen j
        have l0 := or.lt
        have HY := Lib.hid (And.intro or (And.intro ((HX.out.1.moved hg_wq hgR).moved hg_wr hgR) hR_wr))
        clear hz z1 or HX hg_wq hg_wr hR_wq
        go_region_with ((go_at_call 45; (with_reducible refine (pick_any (63) R (3) _ ?_ (by omega) (by omega) (by omega)).mono ?_); (focus ((repeat (first | with_reducible assumption | (with_reducible refine rdr_drewN ?_ _) | (with_reducible refine rdr_drew ?_) | (with_reducible refine rdr_alloc ?_ _) | (with_reducible refine rdr_setCell ?_ (by first | omega | (simp <;> omega) | simp) _) | (with_reducible refine rdr_chain ?_ (by with_reducible assumption)))); done)); rintro e wu ⟨m_wu, hm0_wu, hm1_wu, rfl, hR_wu, hg_wu, hq_wu⟩; have hs_wu := Nat.le_of_eq hq_wu; have ht_wu := Nat.le_of_eq hq_wu.symm; (try simp at hs_wu); (try simp at ht_wu); clear hq_wu); have oz := HY.out.1.grown (gb_undrew hg_wu) hgtR; have fz := oz.frozen j; have xz : wu.cell? ⟨gt, j, none⟩ = some (.int .i64 z) := oz.cells HZ.out; have lz := oz.lt; clear oz)
        all_goals go_wp2_with fail
        all_goals (have hr5 := HY.out.2.1.moved (gb_undrew hg_wu) hgR; exact bodyPost_ret (v := .tuple #[.int .i64 N, .slice (some ⟨g, 0, none⟩) m cap, .slice (some ⟨gt, 0, none⟩) kt ct]) (by simp [results, Try.results14, go_sem]) rfl ⟨N, m, kt, rs, T.set j _, g, gt, ⟨cap, ct, rfl⟩, ⟨HM.out, by simpa using HT.out.2.1, ⟨hN2, hN6⟩, hm8, by omega⟩, (hr5.2.1.setOther (by simpa using hgtg.symm) _).runs, ((HY.out.1.grown (gb_undrew hg_wu) hgtR).set j _ (by have := HT.out.2.1; omega)).ints, below_gb hb_wo (gb_new hr5.2.2 hgw2 _) hwR hb_wo.size⟩)
      · have hr5 := HX.out.1.moved hg_wq hgR
        exact bodyPost_ret (v := .tuple #[.int .i64 N, .slice (some ⟨g, 0, none⟩) m cap, .slice (some ⟨gt, 0, none⟩) kt ct]) (by simp [results, Try.results14, go_sem]) rfl ⟨N, m, kt, rs, T, g, gt, ⟨cap, ct, rfl⟩, ⟨HM.out, HT.out.2.1, ⟨hN2, hN6⟩, hm8, by omega⟩, hr5.2.1.runs, (HX.out.2.2.grown hg_wq hgtR).ints, below_gb hb_wo hr5.2.2 hwR hb_wo.size⟩
    · have HQ : Hid (RunsIn wo wp R g cap rs ∧ Rdr (61 + 0) wp R) := Lib.hid (And.intro (HV.out.1.moved hg_wp hgR) (rdr_mono hR_wp (by omega)))
      have HE := Lib.hid (Own.empty wp 3 1)
      clear HV HT hrd0 hg_wp hR_wp
      go_loopw [11, 12] (fun v i wr => ∃ (j gh ch k : Nat) (L : List Int), j ≤ m ∧ i = .int .i64 j ∧ v = .slice (some ⟨gh, 0, none⟩) k ch ∧ L.length = k ∧ k ≤ j ∧ (wo.heap.size ≤ gh ∧ gh ≠ g) ∧ Own wr gh 3 1 k ch L ∧ RunsIn wo wr R g cap rs ∧ Rdr (61 + j) wr R) (fun _ i _ => m - (intOf i).toNat)
      case atStart => exact ⟨0, _, _, 0, [], Nat.zero_le _, rfl, rfl, rfl, Nat.le_refl _, ⟨by omega, by omega⟩, HE.out, HQ.out.1.alloc _, rdr_alloc HQ.out.2 _⟩
      case round =>
        clear HE HQ
        obtain ⟨j, gh, ch, k, L, hj, rfl, rfl, hLk, hkj, ⟨hgh, hghg⟩, how, hri, hrd⟩ := hrel
        have hbs := hri.2.2.size
        have hlo := how.lt
        have hlg2 := hri.2.1.lt
        have hghR : gh ≠ R := by omega
        have HO := Lib.hid (And.intro how (And.intro hri hLk))
        clear how hri hLk
        by_cases hlt : j < m
        · go_wp2_with (first | (go_at_call 45; (with_reducible refine (pick_any (61 + j) R (2) _ ?_ (by omega) (by omega) (by omega)).mono ?_); (focus ((repeat (first | with_reducible assumption | (with_reducible refine rdr_drewN ?_ _) | (with_reducible refine rdr_drew ?_) | (with_reducible refine rdr_alloc ?_ _) | (with_reducible refine rdr_setCell ?_ (by first | omega | (simp <;> omega) | simp) _) | (with_reducible refine rdr_chain ?_ (by with_reducible assumption)))); done)); rintro e wp ⟨m_wp, hm0_wp, hm1_wp, rfl, hR_wp, hg_wp, hq_wp⟩; have hs_wp := Nat.le_of_eq hq_wp; have ht_wp := Nat.le_of_eq hq_wp.symm; (try simp at hs_wp); (try simp at ht_wp); clear hq_wp) | (at_builtin; refine wp_append _ rfl _ _ 24 rfl 3 _ 1 8 Try.underlying24 info_int rfl (by decide) (by decide) _ k ch L rfl ((HO.out.1.grown hg_wp hghR).alloc _) _ _ _ [(j : Int)] rfl rfl (one_cell _ _ _) (by omega) ?_; intro g' cap' w' hown hgr hloc hsz; have HN := Lib.hid (And.intro hown (And.intro hgr hloc)); clear hown hgr hloc))
          · go_roundw
            case rel =>
              obtain ⟨hown, hgr, hloc⟩ := HN.out
              have hri2 := (HO.out.2.1.moved hg_wp hgR).alloc (.cells #[.int .i64 j] 3)
              have hg' : wo.heap.size ≤ g' ∧ g' ≠ g := by
                rcases hloc with rfl | rfl
                · exact ⟨hgh, hghg⟩
                · simp; omega
              exact ⟨j + 1, g', cap', k + 1, L ++ [(j : Int)], by omega, by go_num, rfl, by simp [HO.out.2.2], by omega, hg', hown, ⟨hri2.1, hri2.2.1.grown hgr (by omega), gb_own hri2.2.2 hgr hgh⟩, rdr_mono (rdr_own (rdr_alloc hR_wp _) hgr (by omega)) (by omega)⟩
            case measure => simp [intOf]; omega
          · go_roundw
            case rel => exact ⟨j + 1, gh, ch, k, L, by omega, by go_num, rfl, HO.out.2.2, by omega, ⟨hgh, hghg⟩, HO.out.1.grown hg_wp hghR, HO.out.2.1.moved hg_wp hgR, rdr_mono hR_wp (by omega)⟩
            case measure => simp [intOf]; omega
        · have e : j = m := by omega
          subst e
          go_wp2_with fail
          exact bodyPost_ret (v := .tuple #[.int .i64 N, .slice (some ⟨g, 0, none⟩) j cap, .slice (some ⟨gh, 0, none⟩) k ch]) (by simp [results, Try.results14, go_sem]) rfl ⟨N, j, k, rs, L, g, gh, ⟨cap, ch, rfl⟩, ⟨HM.out, HO.out.2.2, ⟨hN2, hN6⟩, hm8, by omega⟩, HO.out.2.1.2.1.runs, HO.out.1.ints, below_gb hb_wo HO.out.2.1.2.2 hwR hb_wo.size⟩
end Go.Proofs.Ytgbnnepbnahecaa
