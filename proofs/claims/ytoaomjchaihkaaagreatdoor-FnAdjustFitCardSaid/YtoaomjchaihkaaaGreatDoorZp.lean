/-
  What the draw of a net gives: a number of nodes and a list of at most eight runs in memory of its own, by the reader and new memory alone.
  What the draws of the laws on linked nodes and on turned runs give: nets of at most eight runs, by new memory alone.
  What the draw of a net of at most five nodes gives: a number of nodes and a list of at most eight runs in memory of its own, by the reader and new memory alone.
  What the draws of the laws on matrices of nets give.
-/
import Derived.Test.YtoaomjchaihkaaaGreatDoorZo
import Derived.Test.YtoaomjchaihkaaaGreatDoorZa
namespace Go.Proofs.YtoaomjchaihkaaaGreatDoor
open Go.RowKit
set_option linter.unusedVariables false

set_option maxHeartbeats 8000000 in
set_option maxRecDepth 100000 in
theorem net_is (R : Nat) (w : World) (h : Rdr 0 w R) :
    Calls Tryz.prog 66 #[.pointer (some ⟨R, 0, none⟩), .int .i64 6] w fun e w' => ∃ (N : Nat) (rs : List Rn) (g cap : Nat), e = .returned (.tuple #[.int .i64 N, .slice (some ⟨g, 0, none⟩) rs.length cap]) ∧ (2 ≤ N ∧ N ≤ 6) ∧ rs.length ≤ 8 ∧ RunsIn w w' R g cap rs ∧ Rdr 60 w' R := by
  have hRl := rdr_lt h
  go_enter Tryz.func66, Tryz.ntmps66
  go_wp2_with ((go_at_call 68; (with_reducible refine (pick_any (0) R (5) _ ?_ (by omega) (by omega) (by omega)).mono ?_); (focus ((repeat (first | with_reducible assumption | (with_reducible refine rdr_drewN ?_ _) | (with_reducible refine rdr_drew ?_) | (with_reducible refine rdr_alloc ?_ _) | (with_reducible refine rdr_setCell ?_ (by first | omega | (simp <;> omega) | simp) _) | (with_reducible refine rdr_chain ?_ (by with_reducible assumption)))); done)); rintro e wa ⟨m_wa, hm0_wa, hm1_wa, rfl, hR_wa, hg_wa, hq_wa⟩; have hs_wa := Nat.le_of_eq hq_wa; have ht_wa := Nat.le_of_eq hq_wa.symm; (try simp at hs_wa); (try simp at ht_wa); clear hq_wa))
  obtain ⟨N, hN⟩ : ∃ N : Nat, 2 + m_wa = (N : Int) := ⟨(2 + m_wa).toNat, by omega⟩
  have hN2 : 2 ≤ N := by omega
  have hN6 : N ≤ 6 := by omega
  rw [hN]
  have HW := Lib.hid (And.intro hR_wa hg_wa)
  have HE := Lib.hid (Own.empty wa 42 4)
  clear h hN hm0_wa hm1_wa hR_wa hg_wa
  go_loopw [7, 8] (fun v i wr => ∃ (k g cap : Nat) (rs : List Rn), k + 1 ≤ N ∧ i = .int .i64 (k + 1 : Nat) ∧ v = .slice (some ⟨g, 0, none⟩) rs.length cap ∧ rs.length ≤ k ∧ Small rs ∧ RunsIn w wr R g cap rs ∧ Rdr (1 + 4 * k) wr R) (fun _ i _ => N - (intOf i).toNat)
  case atStart => exact ⟨0, _, _, [], by omega, rfl, rfl, Nat.le_refl _, Small.nil, ⟨by omega, HE.out, gb_alloc HW.out.2 _⟩, rdr_alloc HW.out.1 _⟩
  case round =>
    clear HE HW hs_wa ht_wa
    obtain ⟨k, g, cap, rs, hk, rfl, rfl, hrl, hsm, ⟨hg, how, hgb⟩, hrd⟩ := hrel
    have hbs := hgb.size
    have hlo := how.lt
    have HO := Lib.hid (And.intro hsm (And.intro how hgb))
    clear hsm how hgb
    by_cases hlt : k + 1 < N
    · have hgR : g ≠ R := by omega
      go_wp2_with ((go_at_call 68; (with_reducible refine (pick_any (1 + 4 * k) R (12) _ ?_ (by omega) (by omega) (by omega)).mono ?_); (focus ((repeat (first | with_reducible assumption | (with_reducible refine rdr_drewN ?_ _) | (with_reducible refine rdr_drew ?_) | (with_reducible refine rdr_alloc ?_ _) | (with_reducible refine rdr_setCell ?_ (by first | omega | (simp <;> omega) | simp) _) | (with_reducible refine rdr_chain ?_ (by with_reducible assumption)))); done)); rintro e wb ⟨m_wb, hm0_wb, hm1_wb, rfl, hR_wb, hg_wb, hq_wb⟩; have hs_wb := Nat.le_of_eq hq_wb; have ht_wb := Nat.le_of_eq hq_wb.symm; (try simp at hs_wb); (try simp at ht_wb); clear hq_wb))
      · go_wp2_with (first | (go_at_call 68; (with_reducible refine (pick_any (1 + 4 * k + 1) R ((k : Int) + 1) _ ?_ (by omega) (by omega) (by omega)).mono ?_); (focus ((repeat (first | with_reducible assumption | (with_reducible refine rdr_drewN ?_ _) | (with_reducible refine rdr_drew ?_) | (with_reducible refine rdr_alloc ?_ _) | (with_reducible refine rdr_setCell ?_ (by first | omega | (simp <;> omega) | simp) _) | (with_reducible refine rdr_chain ?_ (by with_reducible assumption)))); done)); rintro e wc ⟨m_wc, hm0_wc, hm1_wc, rfl, hR_wc, hg_wc, hq_wc⟩; have hs_wc := Nat.le_of_eq hq_wc; have ht_wc := Nat.le_of_eq hq_wc.symm; (try simp at hs_wc); (try simp at ht_wc); clear hq_wc) | (go_at_call 68; (with_reducible refine (pick_any (1 + 4 * k + 1 + 1) R (61) _ ?_ (by omega) (by omega) (by omega)).mono ?_); (focus ((repeat (first | with_reducible assumption | (with_reducible refine rdr_drewN ?_ _) | (with_reducible refine rdr_drew ?_) | (with_reducible refine rdr_alloc ?_ _) | (with_reducible refine rdr_setCell ?_ (by first | omega | (simp <;> omega) | simp) _) | (with_reducible refine rdr_chain ?_ (by with_reducible assumption)))); done)); rintro e wd ⟨m_wd, hm0_wd, hm1_wd, rfl, hR_wd, hg_wd, hq_wd⟩; have hs_wd := Nat.le_of_eq hq_wd; have ht_wd := Nat.le_of_eq hq_wd.symm; (try simp at hs_wd); (try simp at ht_wd); clear hq_wd) | (go_at_call 68; (with_reducible refine (pick_any (1 + 4 * k + 1 + 1 + 1) R (4) _ ?_ (by omega) (by omega) (by omega)).mono ?_); (focus ((repeat (first | with_reducible assumption | (with_reducible refine rdr_drewN ?_ _) | (with_reducible refine rdr_drew ?_) | (with_reducible refine rdr_alloc ?_ _) | (with_reducible refine rdr_setCell ?_ (by first | omega | (simp <;> omega) | simp) _) | (with_reducible refine rdr_chain ?_ (by with_reducible assumption)))); done)); rintro e we ⟨m_we, hm0_we, hm1_we, rfl, hR_we, hg_we, hq_we⟩; have hs_we := Nat.le_of_eq hq_we; have ht_we := Nat.le_of_eq hq_we.symm; (try simp at hs_we); (try simp at ht_we); clear hq_we) | (at_builtin; refine wp_append _ rfl _ _ 23 rfl 42 _ 4 32 Tryz.underlying23 info_run rfl (by decide) (by decide) g rs.length cap (flat rs) rfl (((((HO.out.2.1.grown hg_wb hgR).grown hg_wc hgR).grown hg_wd hgR).grown hg_we hgR).alloc _) _ _ _ _ rfl rfl (four_cells _ _ _ _ _ _) (by omega) ?_; intro g' cap' w' hown hgr hloc hsz; rw [flat_snoc] at hown; have HN := Lib.hid (And.intro hown (And.intro hgr hloc)); clear hown hgr hloc))
        go_roundw
        case rel =>
          obtain ⟨hown, hgr, hloc⟩ := HN.out
          have hg' : w.heap.size ≤ g' := by
            rcases hloc with rfl | rfl
            · exact hg
            · simp; omega
          refine ⟨k + 1, g', cap', rs ++ [⟨_, _, _, _⟩], by omega, by go_num, by simp, by simp; omega, HO.out.1.snoc (c := m_wd - 30) (by omega) (by omega), ⟨hg', by simpa using hown, gb_own (gb_alloc (gb_trans (gb_trans (gb_trans (gb_trans HO.out.2.2 hg_wb) hg_wc) hg_wd) hg_we) _) hgr hg⟩, rdr_mono (rdr_own (rdr_alloc hR_we _) hgr (by omega)) (by omega)⟩
        case measure => simp [intOf]; omega
      · go_roundw
        case rel => exact ⟨k + 1, g, cap, rs, by omega, by go_num, rfl, by omega, HO.out.1, ⟨hg, HO.out.2.1.grown hg_wb hgR, gb_trans HO.out.2.2 hg_wb⟩, rdr_mono hR_wb (by omega)⟩
        case measure => simp [intOf]; omega
    · have hrl5 : rs.length ≤ 5 := by omega
      have hk5 : k ≤ 5 := by omega
      have hgR : g ≠ R := by omega
      go_wp2_with ((go_at_call 68; (with_reducible refine (pick_any (1 + 4 * k) R (4) _ ?_ (by omega) (by omega) (by omega)).mono ?_); (focus ((repeat (first | with_reducible assumption | (with_reducible refine rdr_drewN ?_ _) | (with_reducible refine rdr_drew ?_) | (with_reducible refine rdr_alloc ?_ _) | (with_reducible refine rdr_setCell ?_ (by first | omega | (simp <;> omega) | simp) _) | (with_reducible refine rdr_chain ?_ (by with_reducible assumption)))); done)); rintro e wb ⟨m_wb, hm0_wb, hm1_wb, rfl, hR_wb, hg_wb, hq_wb⟩; have hs_wb := Nat.le_of_eq hq_wb; have ht_wb := Nat.le_of_eq hq_wb.symm; (try simp at hs_wb); (try simp at ht_wb); clear hq_wb))
      obtain ⟨M, hM⟩ : ∃ M : Nat, m_wb = (M : Int) := ⟨m_wb.toNat, by omega⟩
      subst hM
      have hM3 : M ≤ 3 := by omega
      have HR := Lib.hid (rdr_mono hR_wb (show 1 + 4 * k + 1 ≤ 22 by omega))
      have HQ : Hid (Small rs ∧ RunsIn w wb R g cap rs) := Lib.hid ⟨HO.out.1, hg, HO.out.2.1.grown hg_wb hgR, gb_trans HO.out.2.2 hg_wb⟩
      clear hR_wb hg_wb HO hlo hbs hrd hlt hs_wb ht_wb
      go_loopw [7, 10] (fun v i wr => ∃ (q g cap : Nat) (rs : List Rn), q ≤ M ∧ i = .int .i64 q ∧ v = .slice (some ⟨g, 0, none⟩) rs.length cap ∧ rs.length ≤ 5 + q ∧ Small rs ∧ RunsIn w wr R g cap rs ∧ Rdr (22 + 4 * q) wr R) (fun _ i _ => M - (intOf i).toNat)
      case atStart => exact ⟨0, g, cap, rs, Nat.zero_le _, rfl, rfl, hrl5, HQ.out.1, HQ.out.2, HR.out⟩
      case round =>
        clear HQ HR hrl5 hrl hg hgR hk hk5
        rename World => wz
        obtain ⟨q, g, cap, rs, hk, rfl, rfl, hrl, hsm, ⟨hg, how, hgb⟩, hrd⟩ := hrel
        have hbs := hgb.size
        have hlo := how.lt
        have hgR : g ≠ R := by omega
        have HO := Lib.hid (And.intro hsm (And.intro how hgb))
        clear hsm how hgb
        by_cases hlt : q < M
        · go_wp2_with (first | (go_at_call 68; (with_reducible refine (pick_any (22 + 4 * q) R ((N : Int)) _ ?_ (by omega) (by omega) (by omega)).mono ?_); (focus ((repeat (first | with_reducible assumption | (with_reducible refine rdr_drewN ?_ _) | (with_reducible refine rdr_drew ?_) | (with_reducible refine rdr_alloc ?_ _) | (with_reducible refine rdr_setCell ?_ (by first | omega | (simp <;> omega) | simp) _) | (with_reducible refine rdr_chain ?_ (by with_reducible assumption)))); done)); rintro e wb ⟨m_wb, hm0_wb, hm1_wb, rfl, hR_wb, hg_wb, hq_wb⟩; have hs_wb := Nat.le_of_eq hq_wb; have ht_wb := Nat.le_of_eq hq_wb.symm; (try simp at hs_wb); (try simp at ht_wb); clear hq_wb) | (go_at_call 68; (with_reducible refine (pick_any (22 + 4 * q + 1) R ((N : Int) - 1) _ ?_ (by omega) (by omega) (by omega)).mono ?_); (focus ((repeat (first | with_reducible assumption | (with_reducible refine rdr_drewN ?_ _) | (with_reducible refine rdr_drew ?_) | (with_reducible refine rdr_alloc ?_ _) | (with_reducible refine rdr_setCell ?_ (by first | omega | (simp <;> omega) | simp) _) | (with_reducible refine rdr_chain ?_ (by with_reducible assumption)))); done)); rintro e wc ⟨m_wc, hm0_wc, hm1_wc, rfl, hR_wc, hg_wc, hq_wc⟩; have hs_wc := Nat.le_of_eq hq_wc; have ht_wc := Nat.le_of_eq hq_wc.symm; (try simp at hs_wc); (try simp at ht_wc); clear hq_wc) | (go_at_call 68; (with_reducible refine (pick_any (22 + 4 * q + 1 + 1) R (61) _ ?_ (by omega) (by omega) (by omega)).mono ?_); (focus ((repeat (first | with_reducible assumption | (with_reducible refine rdr_drewN ?_ _) | (with_reducible refine rdr_drew ?_) | (with_reducible refine rdr_alloc ?_ _) | (with_reducible refine rdr_setCell ?_ (by first | omega | (simp <;> omega) | simp) _) | (with_reducible refine rdr_chain ?_ (by with_reducible assumption)))); done)); rintro e wd ⟨m_wd, hm0_wd, hm1_wd, rfl, hR_wd, hg_wd, hq_wd⟩; have hs_wd := Nat.le_of_eq hq_wd; have ht_wd := Nat.le_of_eq hq_wd.symm; (try simp at hs_wd); (try simp at ht_wd); clear hq_wd) | (go_at_call 68; (with_reducible refine (pick_any (22 + 4 * q + 1 + 1 + 1) R (4) _ ?_ (by omega) (by omega) (by omega)).mono ?_); (focus ((repeat (first | with_reducible assumption | (with_reducible refine rdr_drewN ?_ _) | (with_reducible refine rdr_drew ?_) | (with_reducible refine rdr_alloc ?_ _) | (with_reducible refine rdr_setCell ?_ (by first | omega | (simp <;> omega) | simp) _) | (with_reducible refine rdr_chain ?_ (by with_reducible assumption)))); done)); rintro e we ⟨m_we, hm0_we, hm1_we, rfl, hR_we, hg_we, hq_we⟩; have hs_we := Nat.le_of_eq hq_we; have ht_we := Nat.le_of_eq hq_we.symm; (try simp at hs_we); (try simp at ht_we); clear hq_we) | (at_builtin; refine wp_append _ rfl _ _ 23 rfl 42 _ 4 32 Tryz.underlying23 info_run rfl (by decide) (by decide) g rs.length cap (flat rs) rfl (((((HO.out.2.1.grown hg_wb hgR).grown hg_wc hgR).grown hg_wd hgR).grown hg_we hgR).alloc _) _ _ _ _ rfl rfl (four_cells _ _ _ _ _ _) (by omega) ?_; intro g' cap' w' hown hgr hloc hsz; rw [flat_snoc] at hown; have HN := Lib.hid (And.intro hown (And.intro hgr hloc)); clear hown hgr hloc))
          go_roundw
          case rel =>
            obtain ⟨hown, hgr, hloc⟩ := HN.out
            have hg' : w.heap.size ≤ g' := by
              rcases hloc with rfl | rfl
              · exact hg
              · simp; omega
            refine ⟨q + 1, g', cap', rs ++ [⟨_, _, _, _⟩], by omega, by go_num, by simp, by simp; omega, HO.out.1.snoc (c := m_wd - 30) (by omega) (by omega), ⟨hg', by simpa using hown, gb_own (gb_alloc (gb_trans (gb_trans (gb_trans (gb_trans HO.out.2.2 hg_wb) hg_wc) hg_wd) hg_we) _) hgr hg⟩, rdr_mono (rdr_own (rdr_alloc hR_we _) hgr (by omega)) (by omega)⟩
          case measure => simp [intOf]; omega
        · have hrl8 : rs.length ≤ 8 := by omega
          have HQ : Hid (Small rs ∧ RunsIn w wz R g cap rs ∧ Rdr 34 wz R) := Lib.hid ⟨HO.out.1, ⟨hg, HO.out.2.1, HO.out.2.2⟩, rdr_mono hrd (by omega)⟩
          clear HO hlo hbs hrd
          go_wp2_with fail
          clear hlt
          go_loopw [13] (fun i wr => ∃ (q : Nat) (rs' : List Rn), rs'.length = rs.length ∧ q ≤ rs.length ∧ i = .int .i64 q ∧ Small rs' ∧ RunsIn w wr R g cap rs' ∧ Rdr (34 + q) wr R) (fun i _ => rs.length - (intOf i).toNat)
          case atStart => exact ⟨0, rs, rfl, Nat.zero_le _, rfl, HQ.out.1, HQ.out.2.1, HQ.out.2.2⟩
          case round =>
            clear HQ hrl
            rename World => wy
            obtain ⟨q, rs', hrr, hk, rfl, hsm, ⟨hg', how, hgb⟩, hrd⟩ := hrel
            have hbs := hgb.size
            have hlo := how.lt
            have HO := Lib.hid (And.intro hsm (And.intro how hgb))
            have HRR := Lib.hid hrr
            clear hsm how hgb hg' hrr
            by_cases hlt : q < rs.length
            · obtain ⟨r, hr⟩ : ∃ r, rs'[q]? = some r := ⟨_, List.getElem?_eq_getElem (by have := HRR.out; omega)⟩
              obtain ⟨hs1, hs2⟩ := HO.out.1 r (List.mem_of_getElem? hr)
              obtain ⟨x0, x1, x2, x3⟩ := HO.out.2.1.runAt hr
              have hf0 := HO.out.2.1.frozen (q * 4)
              have hf1 := HO.out.2.1.frozen (q * 4 + 1)
              have hf2 := HO.out.2.1.frozen (q * 4 + 2)
              have hf3 := HO.out.2.1.frozen (q * 4 + 3)
              have HR := Lib.hid hr
              clear hr
              go_wp2_with ((go_at_call 68; (with_reducible refine (pick_any (34 + q) R (3) _ ?_ (by omega) (by omega) (by omega)).mono ?_); (focus ((repeat (first | with_reducible assumption | (with_reducible refine rdr_drewN ?_ _) | (with_reducible refine rdr_drew ?_) | (with_reducible refine rdr_alloc ?_ _) | (with_reducible refine rdr_setCell ?_ (by first | omega | (simp <;> omega) | simp) _) | (with_reducible refine rdr_chain ?_ (by with_reducible assumption)))); done)); rintro e wb ⟨m_wb, hm0_wb, hm1_wb, rfl, hR_wb, hg_wb, hq_wb⟩; have hs_wb := Nat.le_of_eq hq_wb; have ht_wb := Nat.le_of_eq hq_wb.symm; (try simp at hs_wb); (try simp at ht_wb); clear hq_wb); obtain ⟨hcn, hfn⟩ := gcell hg_wb; have hlb : g < wb.heap.size := (by omega))
              · go_roundw
                case rel =>
                  have hlt' : q < rs'.length := by have := HRR.out; omega
                  have h4 := ((show RunsIn w _ R g cap rs' from ⟨hg, HO.out.2.1, HO.out.2.2⟩).moved hg_wb hgR).set4 hlt' r.t r.f (-r.s) r.g
                  exact ⟨q + 1, _, by simpa using HRR.out, by omega, by go_num, HO.out.1.set (by simp; omega) (by simp; omega), h4.alloc _, rdr_mono (rdr_alloc (rdr_set4 hR_wb (by omega) 0 _ _ _ _ _ _ _ _) _) (by omega)⟩
                case measure => simp [intOf]; omega
              · go_roundw
                case rel => exact ⟨q + 1, rs', HRR.out, by omega, by go_num, HO.out.1, ⟨hg, HO.out.2.1.grown hg_wb hgR, gb_trans HO.out.2.2 hg_wb⟩, rdr_mono hR_wb (by omega)⟩
                case measure => simp [intOf]; omega
            · -- the tail
              have hRI : Hid (RunsIn w _ R g cap rs' ∧ Rdr 42 _ R) := Lib.hid ⟨⟨hg, HO.out.2.1, HO.out.2.2⟩, rdr_mono hrd (by omega)⟩
              clear HO hrd
              have hrd42 := hRI.out.2
              by_cases h2 : 1 < rs.length
              · have h2' : (1 : Int) < (rs.length : Int) := by omega
                have h1' : (0 : Int) < (rs.length : Int) := by omega
                go_upto_region 23 with ((go_at_call 68; (with_reducible refine (pick_any (42) R ((rs.length : Int)) _ ?_ (by omega) (by omega) (by omega)).mono ?_); (focus ((repeat (first | with_reducible assumption | (with_reducible refine rdr_drewN ?_ _) | (with_reducible refine rdr_drew ?_) | (with_reducible refine rdr_alloc ?_ _) | (with_reducible refine rdr_setCell ?_ (by first | omega | (simp <;> omega) | simp) _) | (with_reducible refine rdr_chain ?_ (by with_reducible assumption)))); done)); rintro e wb ⟨m_wb, hm0_wb, hm1_wb, rfl, hR_wb, hg_wb, hq_wb⟩; have hs_wb := Nat.le_of_eq hq_wb; have ht_wb := Nat.le_of_eq hq_wb.symm; (try simp at hs_wb); (try simp at ht_wb); clear hq_wb))
                have OB := Lib.hid (And.intro (hRI.out.1.moved hg_wb hgR) hR_wb)
                obtain ⟨mk', hmk⟩ : ∃ mk' : Nat, m_wb = (mk' : Int) := ⟨m_wb.toNat, by omega⟩
                subst hmk
                obtain ⟨r0, hr0⟩ : ∃ r0, rs'[0]? = some r0 := ⟨_, List.getElem?_eq_getElem (by rw [HRR.out]; omega)⟩
                obtain ⟨rk, hrk⟩ : ∃ rk, rs'[mk']? = some rk := ⟨_, List.getElem?_eq_getElem (by rw [HRR.out]; omega)⟩
                have hlb := OB.out.1.2.1.lt
                obtain ⟨y0, y1, y2, y3⟩ := OB.out.1.2.1.runAt hr0
                simp only [Nat.zero_mul, Nat.zero_add] at y0 y1 y2 y3
                have hp0 := OB.out.1.2.1.frozen 0
                have hp1 := OB.out.1.2.1.frozen 1
                have hp2 := OB.out.1.2.1.frozen 2
                have hp3 := OB.out.1.2.1.frozen 3
                have hz1 : 0 < rs'.length := by rw [HRR.out]; omega
                have hz2 : mk' < rs'.length := by rw [HRR.out]; omega
                have HZ := Lib.hid (And.intro hz1 hz2)
                clear hRI hg_wb hR_wb hrd42 hz1 hz2
                rcases Nat.eq_zero_or_pos mk' with rfl | hpos
                · obtain rfl : r0 = rk := by rw [hr0] at hrk; cases hrk; rfl
                  clear hr0 hrk
                  go_upto_region 26 with fail
                  refine gen_world (fun W => ∃ rs2 : List Rn, rs2.length = rs.length ∧ RunsIn w W R g cap rs2 ∧ Rdr 43 W R) ?_ (fun w3 hp => ?_)
                  · have h4 := (((OB.out.1.set4 (i := 0) HZ.out.1 r0.f r0.t r0.s r0.g).set4 (i := 0) (by simpa using HZ.out.1) r0.f r0.t r0.s r0.g).alloc (.cells #[.int .i64 r0.f, .int .i64 r0.t, .int .i64 r0.s, .int .i64 r0.g] 42))
                    have h5 := rdr_alloc (rdr_set4 (rdr_set4 OB.out.2 (by omega : R < g) 0 0 1 2 3 (.int .i64 r0.f) (.int .i64 r0.t) (.int .i64 r0.s) (.int .i64 r0.g)) (by omega : R < g) 0 0 1 2 3 (.int .i64 r0.f) (.int .i64 r0.t) (.int .i64 r0.s) (.int .i64 r0.g)) (.cells #[.int .i64 r0.f, .int .i64 r0.t, .int .i64 r0.s, .int .i64 r0.g] 42)
                    exact ⟨(rs'.set 0 ⟨r0.f, r0.t, r0.s, r0.g⟩).set 0 ⟨r0.f, r0.t, r0.s, r0.g⟩, by simpa using HRR.out, by simpa using h4, by simpa using h5⟩
                  clear y0 y1 y2 y3 hp0 hp1 hp2 hp3 OB HZ
                  obtain ⟨rs2, hl2, hr2, hrd2⟩ := hp
                  have hgs3 := hr2.2.2.size
                  have hlo3 := hr2.2.1.lt
                  have HR2 := Lib.hid (And.intro hl2 hr2)
                  clear hl2 hr2
                  go_upto_region 28 with ((go_at_call 68; (with_reducible refine (pick_any (43) R (50) _ ?_ (by omega) (by omega) (by omega)).mono ?_); (focus ((repeat (first | with_reducible assumption | (with_reducible refine rdr_drewN ?_ _) | (with_reducible refine rdr_drew ?_) | (with_reducible refine rdr_alloc ?_ _) | (with_reducible refine rdr_setCell ?_ (by first | omega | (simp <;> omega) | simp) _) | (with_reducible refine rdr_chain ?_ (by with_reducible assumption)))); done)); rintro e wp ⟨m_wp, hm0_wp, hm1_wp, rfl, hR_wp, hg_wp, hq_wp⟩; have hs_wp := Nat.le_of_eq hq_wp; have ht_wp := Nat.le_of_eq hq_wp.symm; (try simp at hs_wp); (try simp at ht_wp); clear hq_wp))
                  have op := HR2.out.2.moved hg_wp hgR
                  obtain ⟨r1, hr1⟩ : ∃ r1, rs2[0]? = some r1 := ⟨_, List.getElem?_eq_getElem (by rw [HR2.out.1]; omega)⟩
                  obtain ⟨y0, y1, y2, y3⟩ := op.2.1.runAt hr1
                  simp only [Nat.zero_mul, Nat.zero_add] at y0 y1 y2 y3
                  have hp0 := op.2.1.frozen 0
                  have hp1 := op.2.1.frozen 1
                  have hp2 := op.2.1.frozen 2
                  have hp3 := op.2.1.frozen 3
                  have hlp := op.2.1.lt
                  have OP := Lib.hid (And.intro op hR_wp)
                  have hl2' : 0 < rs2.length := by rw [HR2.out.1]; omega
                  have hl2 := HR2.out.1
                  have HL2 := Lib.hid hl2
                  clear op hr1 hg_wp hrd2 hR_wp hl2 HR2
                  have hrdp := OP.out.2
                  go_wp2_with ((go_at_call 68; (with_reducible refine (pick_any (44) R (2) _ ?_ (by omega) (by omega) (by omega)).mono ?_); (focus ((repeat (first | with_reducible assumption | (with_reducible refine rdr_drewN ?_ _) | (with_reducible refine rdr_drew ?_) | (with_reducible refine rdr_alloc ?_ _) | (with_reducible refine rdr_setCell ?_ (by first | omega | (simp <;> omega) | simp) _) | (with_reducible refine rdr_chain ?_ (by with_reducible assumption)))); done)); rintro e wq ⟨m_wq, hm0_wq, hm1_wq, rfl, hR_wq, hg_wq, hq_wq⟩; have hs_wq := Nat.le_of_eq hq_wq; have ht_wq := Nat.le_of_eq hq_wq.symm; (try simp at hs_wq); (try simp at ht_wq); clear hq_wq); obtain ⟨zq, hzq⟩ := two_at m_wq hm0_wq hm1_wq 0 10; have ez : wq.cell? ⟨wp.heap.size, m_wq.toNat, none⟩ = some (.int .i64 zq) := (by rw [(gcell hg_wq).1 _ _ (by simp) (by omega)]; simp [hzq]); have oq := (OP.out.1.alloc (.cells #[.int .i64 0, .int .i64 10] 3)).moved hg_wq hgR; have hq3 := oq.2.1.frozen 3; have q3 : wq.cell? ⟨g, 3, none⟩ = some (.int .i64 r1.g) := (by rw [(gcell hg_wq).1 _ _ (by simp; omega) (by omega)]; simp [*, go_sem]); have hlq := oq.2.1.lt; have OQ := Lib.hid (And.intro oq hR_wq); clear oq)
                  · obtain ⟨rs3, hl3, hr3⟩ := OP.out.1.any hl2' (j := 1) (by decide) r1.f
                    refine bodyPost_ret (v := .tuple #[.int .i64 N, .slice (some ⟨g, 0, none⟩) rs.length cap]) (by simp [results, Tryz.results66, go_sem]) rfl ⟨N, rs3, g, cap, by rw [hl3, HL2.out], ⟨hN2, hN6⟩, by rw [hl3, HL2.out]; omega, hr3, rdr_mono (rdr_setCell (a := ⟨g, 1, none⟩) OP.out.2 (by omega : R < g) _) (by omega)⟩
                  · obtain ⟨rs3, hl3, hr3⟩ := OQ.out.1.any hl2' (j := 3) (by decide) zq
                    refine bodyPost_ret (v := .tuple #[.int .i64 N, .slice (some ⟨g, 0, none⟩) rs.length cap]) (by simp [results, Tryz.results66, go_sem]) rfl ⟨N, rs3, g, cap, by rw [hl3, HL2.out], ⟨hN2, hN6⟩, by rw [hl3, HL2.out]; omega, hr3, rdr_mono (rdr_setCell (a := ⟨g, 3, none⟩) OQ.out.2 (by omega : R < g) _) (by omega)⟩
                  · obtain ⟨rs3, hl3, hr3⟩ := OP.out.1.any hl2' (j := 2) (by decide) 100001
                    refine bodyPost_ret (v := .tuple #[.int .i64 N, .slice (some ⟨g, 0, none⟩) rs.length cap]) (by simp [results, Tryz.results66, go_sem]) rfl ⟨N, rs3, g, cap, by rw [hl3, HL2.out], ⟨hN2, hN6⟩, by rw [hl3, HL2.out]; omega, hr3, rdr_mono (rdr_setCell (a := ⟨g, 2, none⟩) OP.out.2 (by omega : R < g) _) (by omega)⟩
                  · obtain ⟨rs3, hl3, hr3⟩ := OP.out.1.any hl2' (j := 1) (by decide) N
                    refine bodyPost_ret (v := .tuple #[.int .i64 N, .slice (some ⟨g, 0, none⟩) rs.length cap]) (by simp [results, Tryz.results66, go_sem]) rfl ⟨N, rs3, g, cap, by rw [hl3, HL2.out], ⟨hN2, hN6⟩, by rw [hl3, HL2.out]; omega, hr3, rdr_mono (rdr_setCell (a := ⟨g, 1, none⟩) OP.out.2 (by omega : R < g) _) (by omega)⟩
                  · refine bodyPost_ret (v := .tuple #[.int .i64 N, .slice (some ⟨g, 0, none⟩) rs.length cap]) (by simp [results, Tryz.results66, go_sem]) rfl ⟨N, rs2, g, cap, by rw [HL2.out], ⟨hN2, hN6⟩, by rw [HL2.out]; omega, OP.out.1, rdr_mono OP.out.2 (by omega)⟩
                · obtain ⟨z0, z1, z2, z3⟩ := OB.out.1.2.1.runAt hrk
                  have hk0 := OB.out.1.2.1.frozen (mk' * 4)
                  have hk1 := OB.out.1.2.1.frozen (mk' * 4 + 1)
                  have hk2 := OB.out.1.2.1.frozen (mk' * 4 + 2)
                  have hk3 := OB.out.1.2.1.frozen (mk' * 4 + 3)
                  have n00 : ¬ mk' * 4 = 0 := by omega
                  have n01 : ¬ mk' * 4 = 1 := by omega
                  have n02 : ¬ mk' * 4 = 2 := by omega
                  have n03 : ¬ mk' * 4 = 3 := by omega
                  have n11 : ¬ mk' * 4 + 1 = 1 := by omega
                  have n12 : ¬ mk' * 4 + 1 = 2 := by omega
                  have n13 : ¬ mk' * 4 + 1 = 3 := by omega
                  have n22 : ¬ mk' * 4 + 2 = 2 := by omega
                  have n23 : ¬ mk' * 4 + 2 = 3 := by omega
                  have n33 : ¬ mk' * 4 + 3 = 3 := by omega
                  have np : ¬ mk' = 0 := by omega
                  clear hr0 hrk
                  go_upto_region 26 with fail
                  refine gen_world (fun W => ∃ rs2 : List Rn, rs2.length = rs.length ∧ RunsIn w W R g cap rs2 ∧ Rdr 43 W R) ?_ (fun w3 hp => ?_)
                  · have h4 := (((OB.out.1.set4 (i := 0) HZ.out.1 rk.f rk.t rk.s rk.g).set4 (i := mk') (by simpa using HZ.out.2) r0.f r0.t r0.s r0.g).alloc (.cells #[.int .i64 r0.f, .int .i64 r0.t, .int .i64 r0.s, .int .i64 r0.g] 42))
                    have h5 := rdr_alloc (rdr_set4 (rdr_set4 OB.out.2 (by omega : R < g) 0 0 1 2 3 (.int .i64 rk.f) (.int .i64 rk.t) (.int .i64 rk.s) (.int .i64 rk.g)) (by omega : R < g) 0 (mk' * 4) (mk' * 4 + 1) (mk' * 4 + 2) (mk' * 4 + 3) (.int .i64 r0.f) (.int .i64 r0.t) (.int .i64 r0.s) (.int .i64 r0.g)) (.cells #[.int .i64 r0.f, .int .i64 r0.t, .int .i64 r0.s, .int .i64 r0.g] 42)
                    exact ⟨(rs'.set 0 ⟨rk.f, rk.t, rk.s, rk.g⟩).set mk' ⟨r0.f, r0.t, r0.s, r0.g⟩, by simpa using HRR.out, by simpa using h4, by simpa using h5⟩
                  clear y0 y1 y2 y3 hp0 hp1 hp2 hp3 OB HZ z0 z1 z2 z3 hk0 hk1 hk2 hk3 n00 n01 n02 n03 n11 n12 n13 n22 n23 n33
                  obtain ⟨rs2, hl2, hr2, hrd2⟩ := hp
                  have hgs3 := hr2.2.2.size
                  have hlo3 := hr2.2.1.lt
                  have HR2 := Lib.hid (And.intro hl2 hr2)
                  clear hl2 hr2
                  go_upto_region 28 with ((go_at_call 68; (with_reducible refine (pick_any (43) R (50) _ ?_ (by omega) (by omega) (by omega)).mono ?_); (focus ((repeat (first | with_reducible assumption | (with_reducible refine rdr_drewN ?_ _) | (with_reducible refine rdr_drew ?_) | (with_reducible refine rdr_alloc ?_ _) | (with_reducible refine rdr_setCell ?_ (by first | omega | (simp <;> omega) | simp) _) | (with_reducible refine rdr_chain ?_ (by with_reducible assumption)))); done)); rintro e wp ⟨m_wp, hm0_wp, hm1_wp, rfl, hR_wp, hg_wp, hq_wp⟩; have hs_wp := Nat.le_of_eq hq_wp; have ht_wp := Nat.le_of_eq hq_wp.symm; (try simp at hs_wp); (try simp at ht_wp); clear hq_wp))
                  have op := HR2.out.2.moved hg_wp hgR
                  obtain ⟨r1, hr1⟩ : ∃ r1, rs2[0]? = some r1 := ⟨_, List.getElem?_eq_getElem (by rw [HR2.out.1]; omega)⟩
                  obtain ⟨y0, y1, y2, y3⟩ := op.2.1.runAt hr1
                  simp only [Nat.zero_mul, Nat.zero_add] at y0 y1 y2 y3
                  have hp0 := op.2.1.frozen 0
                  have hp1 := op.2.1.frozen 1
                  have hp2 := op.2.1.frozen 2
                  have hp3 := op.2.1.frozen 3
                  have hlp := op.2.1.lt
                  have OP := Lib.hid (And.intro op hR_wp)
                  have hl2' : 0 < rs2.length := by rw [HR2.out.1]; omega
                  have hl2 := HR2.out.1
                  have HL2 := Lib.hid hl2
                  clear op hr1 hg_wp hrd2 hR_wp hl2 HR2
                  have hrdp := OP.out.2
                  go_wp2_with ((go_at_call 68; (with_reducible refine (pick_any (44) R (2) _ ?_ (by omega) (by omega) (by omega)).mono ?_); (focus ((repeat (first | with_reducible assumption | (with_reducible refine rdr_drewN ?_ _) | (with_reducible refine rdr_drew ?_) | (with_reducible refine rdr_alloc ?_ _) | (with_reducible refine rdr_setCell ?_ (by first | omega | (simp <;> omega) | simp) _) | (with_reducible refine rdr_chain ?_ (by with_reducible assumption)))); done)); rintro e wq ⟨m_wq, hm0_wq, hm1_wq, rfl, hR_wq, hg_wq, hq_wq⟩; have hs_wq := Nat.le_of_eq hq_wq; have ht_wq := Nat.le_of_eq hq_wq.symm; (try simp at hs_wq); (try simp at ht_wq); clear hq_wq); obtain ⟨zq, hzq⟩ := two_at m_wq hm0_wq hm1_wq 0 10; have ez : wq.cell? ⟨wp.heap.size, m_wq.toNat, none⟩ = some (.int .i64 zq) := (by rw [(gcell hg_wq).1 _ _ (by simp) (by omega)]; simp [hzq]); have oq := (OP.out.1.alloc (.cells #[.int .i64 0, .int .i64 10] 3)).moved hg_wq hgR; have hq3 := oq.2.1.frozen 3; have q3 : wq.cell? ⟨g, 3, none⟩ = some (.int .i64 r1.g) := (by rw [(gcell hg_wq).1 _ _ (by simp; omega) (by omega)]; simp [*, go_sem]); have hlq := oq.2.1.lt; have OQ := Lib.hid (And.intro oq hR_wq); clear oq)
                  · obtain ⟨rs3, hl3, hr3⟩ := OP.out.1.any hl2' (j := 1) (by decide) r1.f
                    refine bodyPost_ret (v := .tuple #[.int .i64 N, .slice (some ⟨g, 0, none⟩) rs.length cap]) (by simp [results, Tryz.results66, go_sem]) rfl ⟨N, rs3, g, cap, by rw [hl3, HL2.out], ⟨hN2, hN6⟩, by rw [hl3, HL2.out]; omega, hr3, rdr_mono (rdr_setCell (a := ⟨g, 1, none⟩) OP.out.2 (by omega : R < g) _) (by omega)⟩
                  · obtain ⟨rs3, hl3, hr3⟩ := OQ.out.1.any hl2' (j := 3) (by decide) zq
                    refine bodyPost_ret (v := .tuple #[.int .i64 N, .slice (some ⟨g, 0, none⟩) rs.length cap]) (by simp [results, Tryz.results66, go_sem]) rfl ⟨N, rs3, g, cap, by rw [hl3, HL2.out], ⟨hN2, hN6⟩, by rw [hl3, HL2.out]; omega, hr3, rdr_mono (rdr_setCell (a := ⟨g, 3, none⟩) OQ.out.2 (by omega : R < g) _) (by omega)⟩
                  · obtain ⟨rs3, hl3, hr3⟩ := OP.out.1.any hl2' (j := 2) (by decide) 100001
                    refine bodyPost_ret (v := .tuple #[.int .i64 N, .slice (some ⟨g, 0, none⟩) rs.length cap]) (by simp [results, Tryz.results66, go_sem]) rfl ⟨N, rs3, g, cap, by rw [hl3, HL2.out], ⟨hN2, hN6⟩, by rw [hl3, HL2.out]; omega, hr3, rdr_mono (rdr_setCell (a := ⟨g, 2, none⟩) OP.out.2 (by omega : R < g) _) (by omega)⟩
                  · obtain ⟨rs3, hl3, hr3⟩ := OP.out.1.any hl2' (j := 1) (by decide) N
                    refine bodyPost_ret (v := .tuple #[.int .i64 N, .slice (some ⟨g, 0, none⟩) rs.length cap]) (by simp [results, Tryz.results66, go_sem]) rfl ⟨N, rs3, g, cap, by rw [hl3, HL2.out], ⟨hN2, hN6⟩, by rw [hl3, HL2.out]; omega, hr3, rdr_mono (rdr_setCell (a := ⟨g, 1, none⟩) OP.out.2 (by omega : R < g) _) (by omega)⟩
                  · refine bodyPost_ret (v := .tuple #[.int .i64 N, .slice (some ⟨g, 0, none⟩) rs.length cap]) (by simp [results, Tryz.results66, go_sem]) rfl ⟨N, rs2, g, cap, by rw [HL2.out], ⟨hN2, hN6⟩, by rw [HL2.out]; omega, OP.out.1, rdr_mono OP.out.2 (by omega)⟩
              · have h2' : ¬ (1 : Int) < (rs.length : Int) := by omega
                by_cases h1 : 0 < rs.length
                · have h1' : (0 : Int) < (rs.length : Int) := by omega
                  go_upto_region 26 with fail
                  refine gen_world (fun W => ∃ rs2 : List Rn, rs2.length = rs.length ∧ RunsIn w W R g cap rs2 ∧ Rdr 43 W R) ⟨rs', HRR.out, hRI.out.1, rdr_mono hrd42 (by omega)⟩ (fun w3 hp => ?_)
                  clear hRI hrd42
                  obtain ⟨rs2, hl2, hr2, hrd2⟩ := hp
                  have hgs3 := hr2.2.2.size
                  have hlo3 := hr2.2.1.lt
                  have HR2 := Lib.hid (And.intro hl2 hr2)
                  clear hl2 hr2
                  go_upto_region 28 with ((go_at_call 68; (with_reducible refine (pick_any (43) R (50) _ ?_ (by omega) (by omega) (by omega)).mono ?_); (focus ((repeat (first | with_reducible assumption | (with_reducible refine rdr_drewN ?_ _) | (with_reducible refine rdr_drew ?_) | (with_reducible refine rdr_alloc ?_ _) | (with_reducible refine rdr_setCell ?_ (by first | omega | (simp <;> omega) | simp) _) | (with_reducible refine rdr_chain ?_ (by with_reducible assumption)))); done)); rintro e wp ⟨m_wp, hm0_wp, hm1_wp, rfl, hR_wp, hg_wp, hq_wp⟩; have hs_wp := Nat.le_of_eq hq_wp; have ht_wp := Nat.le_of_eq hq_wp.symm; (try simp at hs_wp); (try simp at ht_wp); clear hq_wp))
                  have op := HR2.out.2.moved hg_wp hgR
                  obtain ⟨r1, hr1⟩ : ∃ r1, rs2[0]? = some r1 := ⟨_, List.getElem?_eq_getElem (by rw [HR2.out.1]; omega)⟩
                  obtain ⟨y0, y1, y2, y3⟩ := op.2.1.runAt hr1
                  simp only [Nat.zero_mul, Nat.zero_add] at y0 y1 y2 y3
                  have hp0 := op.2.1.frozen 0
                  have hp1 := op.2.1.frozen 1
                  have hp2 := op.2.1.frozen 2
                  have hp3 := op.2.1.frozen 3
                  have hlp := op.2.1.lt
                  have OP := Lib.hid (And.intro op hR_wp)
                  have hl2' : 0 < rs2.length := by rw [HR2.out.1]; omega
                  have hl2 := HR2.out.1
                  have HL2 := Lib.hid hl2
                  clear op hr1 hg_wp hrd2 hR_wp hl2 HR2
                  have hrdp := OP.out.2
                  go_wp2_with ((go_at_call 68; (with_reducible refine (pick_any (44) R (2) _ ?_ (by omega) (by omega) (by omega)).mono ?_); (focus ((repeat (first | with_reducible assumption | (with_reducible refine rdr_drewN ?_ _) | (with_reducible refine rdr_drew ?_) | (with_reducible refine rdr_alloc ?_ _) | (with_reducible refine rdr_setCell ?_ (by first | omega | (simp <;> omega) | simp) _) | (with_reducible refine rdr_chain ?_ (by with_reducible assumption)))); done)); rintro e wq ⟨m_wq, hm0_wq, hm1_wq, rfl, hR_wq, hg_wq, hq_wq⟩; have hs_wq := Nat.le_of_eq hq_wq; have ht_wq := Nat.le_of_eq hq_wq.symm; (try simp at hs_wq); (try simp at ht_wq); clear hq_wq); obtain ⟨zq, hzq⟩ := two_at m_wq hm0_wq hm1_wq 0 10; have ez : wq.cell? ⟨wp.heap.size, m_wq.toNat, none⟩ = some (.int .i64 zq) := (by rw [(gcell hg_wq).1 _ _ (by simp) (by omega)]; simp [hzq]); have oq := (OP.out.1.alloc (.cells #[.int .i64 0, .int .i64 10] 3)).moved hg_wq hgR; have hq3 := oq.2.1.frozen 3; have q3 : wq.cell? ⟨g, 3, none⟩ = some (.int .i64 r1.g) := (by rw [(gcell hg_wq).1 _ _ (by simp; omega) (by omega)]; simp [*, go_sem]); have hlq := oq.2.1.lt; have OQ := Lib.hid (And.intro oq hR_wq); clear oq)
                  · obtain ⟨rs3, hl3, hr3⟩ := OP.out.1.any hl2' (j := 1) (by decide) r1.f
                    refine bodyPost_ret (v := .tuple #[.int .i64 N, .slice (some ⟨g, 0, none⟩) rs.length cap]) (by simp [results, Tryz.results66, go_sem]) rfl ⟨N, rs3, g, cap, by rw [hl3, HL2.out], ⟨hN2, hN6⟩, by rw [hl3, HL2.out]; omega, hr3, rdr_mono (rdr_setCell (a := ⟨g, 1, none⟩) OP.out.2 (by omega : R < g) _) (by omega)⟩
                  · obtain ⟨rs3, hl3, hr3⟩ := OQ.out.1.any hl2' (j := 3) (by decide) zq
                    refine bodyPost_ret (v := .tuple #[.int .i64 N, .slice (some ⟨g, 0, none⟩) rs.length cap]) (by simp [results, Tryz.results66, go_sem]) rfl ⟨N, rs3, g, cap, by rw [hl3, HL2.out], ⟨hN2, hN6⟩, by rw [hl3, HL2.out]; omega, hr3, rdr_mono (rdr_setCell (a := ⟨g, 3, none⟩) OQ.out.2 (by omega : R < g) _) (by omega)⟩
                  · obtain ⟨rs3, hl3, hr3⟩ := OP.out.1.any hl2' (j := 2) (by decide) 100001
                    refine bodyPost_ret (v := .tuple #[.int .i64 N, .slice (some ⟨g, 0, none⟩) rs.length cap]) (by simp [results, Tryz.results66, go_sem]) rfl ⟨N, rs3, g, cap, by rw [hl3, HL2.out], ⟨hN2, hN6⟩, by rw [hl3, HL2.out]; omega, hr3, rdr_mono (rdr_setCell (a := ⟨g, 2, none⟩) OP.out.2 (by omega : R < g) _) (by omega)⟩
                  · obtain ⟨rs3, hl3, hr3⟩ := OP.out.1.any hl2' (j := 1) (by decide) N
                    refine bodyPost_ret (v := .tuple #[.int .i64 N, .slice (some ⟨g, 0, none⟩) rs.length cap]) (by simp [results, Tryz.results66, go_sem]) rfl ⟨N, rs3, g, cap, by rw [hl3, HL2.out], ⟨hN2, hN6⟩, by rw [hl3, HL2.out]; omega, hr3, rdr_mono (rdr_setCell (a := ⟨g, 1, none⟩) OP.out.2 (by omega : R < g) _) (by omega)⟩
                  · refine bodyPost_ret (v := .tuple #[.int .i64 N, .slice (some ⟨g, 0, none⟩) rs.length cap]) (by simp [results, Tryz.results66, go_sem]) rfl ⟨N, rs2, g, cap, by rw [HL2.out], ⟨hN2, hN6⟩, by rw [HL2.out]; omega, OP.out.1, rdr_mono OP.out.2 (by omega)⟩
                · have h1' : ¬ (0 : Int) < (rs.length : Int) := by omega
                  go_wp2_with fail
                  refine bodyPost_ret (v := .tuple #[.int .i64 N, .slice (some ⟨g, 0, none⟩) rs.length cap]) (by simp [results, Tryz.results66, go_sem]) rfl ⟨N, rs', g, cap, by rw [HRR.out], ⟨hN2, hN6⟩, by rw [HRR.out]; omega, hRI.out.1, rdr_mono hrd42 (by omega)⟩
end Go.Proofs.YtoaomjchaihkaaaGreatDoor
namespace Go.Proofs.YtoaomjchaihkaaaGreatDoor
open Go.RowKit
set_option linter.unusedVariables false

theorem runsIn_below {w0 w w' : World} {R g cap : Nat} {rs : List Rn} (hb : Below w0.heap.size w0 w) (hR : w0.heap.size ≤ R) (h : RunsIn w w' R g cap rs) : Below w0.heap.size w0 w' := below_gb hb h.2.2 hR hb.size
theorem runs_tail {w : World} {g o : Nat} {rs : List Rn} (h : Runs w (some ⟨g, o, none⟩) rs) : Runs w (some ⟨g, o + 4, none⟩) rs.tail := by
  rcases h with rfl | ⟨B, o', e, hB, hc⟩
  · exact .inl rfl
  · simp at e
    obtain ⟨rfl, rfl⟩ := e
    refine .inr ⟨g, o + 4, rfl, hB, fun i r hi => ?_⟩
    have := hc (i + 1) r (by simpa using hi)
    rw [show o + 4 + i * 4 = o + (i + 1) * 4 by omega]
    exact this
/-- what such a draw gives -/
def NetOf (w : World) (N : Nat) (rs : List Rn) (p : Option Addr) (w' : World) : Prop := (2 ≤ N ∧ N ≤ 6) ∧ rs.length ≤ 8 ∧ Runs w' p rs ∧ Below w.heap.size w w'

set_option maxHeartbeats 2000000 in
theorem index_is (K R : Nat) (n : Nat) (w : World) (h : Rdr K w R) (hK : K ≤ 1000) (hn : n ≤ 1000) :
    Calls Tryz.prog 90 #[.pointer (some ⟨R, 0, none⟩), .int .i64 n] w fun e w' => (∃ k : Int, e = .returned (.int .i64 k) ∧ -1 ≤ k ∧ k ≤ n) ∧ Rdr (K + 2) w' R ∧ w.grownBy w' (some R) := by
  have hRlt := rdr_lt h
  by_cases h0 : n = 0
  · subst h0
    go_enter Tryz.func90, Tryz.ntmps90
    go_wp2_with ((go_at_call 68; (with_reducible refine (pick_any (K) R (2) _ ?_ (by omega) (by omega) (by omega)).mono ?_); (focus ((repeat (first | with_reducible assumption | (with_reducible refine rdr_drewN ?_ _) | (with_reducible refine rdr_drew ?_) | (with_reducible refine rdr_alloc ?_ _) | (with_reducible refine rdr_setCell ?_ (by first | omega | (simp <;> omega) | simp) _) | (with_reducible refine rdr_chain ?_ (by with_reducible assumption)))); done)); rintro e wq ⟨m_wq, hm0_wq, hm1_wq, rfl, hR_wq, hg_wq, hq_wq⟩; have hs_wq := Nat.le_of_eq hq_wq; have ht_wq := Nat.le_of_eq hq_wq.symm; (try simp at hs_wq); (try simp at ht_wq); clear hq_wq); obtain ⟨zq, hzq⟩ := two_at m_wq hm0_wq hm1_wq (-1) ((0 : Nat) : Int); have hz2 : -1 ≤ zq ∧ zq ≤ 0 := (by rcases (show m_wq = 0 ∨ m_wq = 1 by omega) with rfl | rfl <;> simp at hzq <;> subst hzq <;> simp); have ez : wq.cell? ⟨w.heap.size, m_wq.toNat, none⟩ = some (.int .i64 zq) := (by rw [(gcell hg_wq).1 _ _ (by simp) (by omega)]; simpa using hzq))
    go_ret
    exact ⟨⟨zq, rfl, hz2.1, by simpa using hz2.2⟩, rdr_mono hR_wq (by omega), gb_trans (gb_alloc (gb_refl _ _) _) hg_wq⟩
  · have h1 : 1 ≤ n := by omega
    have hb : ((n : Int) == 0) = false := by
      have : ¬ (n : Int) = 0 := by omega
      simpa using this
    go_enter Tryz.func90, Tryz.ntmps90
    go_upto_region 2 with ((go_at_call 68; (with_reducible refine (pick_any (K) R (20) _ ?_ (by omega) (by omega) (by omega)).mono ?_); (focus ((repeat (first | with_reducible assumption | (with_reducible refine rdr_drewN ?_ _) | (with_reducible refine rdr_drew ?_) | (with_reducible refine rdr_alloc ?_ _) | (with_reducible refine rdr_setCell ?_ (by first | omega | (simp <;> omega) | simp) _) | (with_reducible refine rdr_chain ?_ (by with_reducible assumption)))); done)); rintro e wp ⟨m_wp, hm0_wp, hm1_wp, rfl, hR_wp, hg_wp, hq_wp⟩; have hs_wp := Nat.le_of_eq hq_wp; have ht_wp := Nat.le_of_eq hq_wp.symm; (try simp at hs_wp); (try simp at ht_wp); clear hq_wp))
    have hlp : R < wp.heap.size := by omega
    go_wp2_with (first | ((go_at_call 68; (with_reducible refine (pick_any (K + 1) R (2) _ ?_ (by omega) (by omega) (by omega)).mono ?_); (focus ((repeat (first | with_reducible assumption | (with_reducible refine rdr_drewN ?_ _) | (with_reducible refine rdr_drew ?_) | (with_reducible refine rdr_alloc ?_ _) | (with_reducible refine rdr_setCell ?_ (by first | omega | (simp <;> omega) | simp) _) | (with_reducible refine rdr_chain ?_ (by with_reducible assumption)))); done)); rintro e wq ⟨m_wq, hm0_wq, hm1_wq, rfl, hR_wq, hg_wq, hq_wq⟩; have hs_wq := Nat.le_of_eq hq_wq; have ht_wq := Nat.le_of_eq hq_wq.symm; (try simp at hs_wq); (try simp at ht_wq); clear hq_wq); obtain ⟨zq, hzq⟩ := two_at m_wq hm0_wq hm1_wq (-1) (n : Int); have hz2 : -1 ≤ zq ∧ zq ≤ n := (by rcases (show m_wq = 0 ∨ m_wq = 1 by omega) with rfl | rfl <;> simp at hzq <;> subst hzq <;> simp); have ez : wq.cell? ⟨wp.heap.size, m_wq.toNat, none⟩ = some (.int .i64 zq) := (by rw [(gcell hg_wq).1 _ _ (by simp) (by omega)]; simpa using hzq)) | (go_at_call 68; (with_reducible refine (pick_any (K + 1) R ((n : Int)) _ ?_ (by omega) (by omega) (by omega)).mono ?_); (focus ((repeat (first | with_reducible assumption | (with_reducible refine rdr_drewN ?_ _) | (with_reducible refine rdr_drew ?_) | (with_reducible refine rdr_alloc ?_ _) | (with_reducible refine rdr_setCell ?_ (by first | omega | (simp <;> omega) | simp) _) | (with_reducible refine rdr_chain ?_ (by with_reducible assumption)))); done)); rintro e wq ⟨m_wq, hm0_wq, hm1_wq, rfl, hR_wq, hg_wq, hq_wq⟩; have hs_wq := Nat.le_of_eq hq_wq; have ht_wq := Nat.le_of_eq hq_wq.symm; (try simp at hs_wq); (try simp at ht_wq); clear hq_wq))
    · go_ret
      exact ⟨⟨zq, rfl, hz2⟩, rdr_mono hR_wq (by omega), gb_trans (gb_alloc hg_wp _) hg_wq⟩
    · go_ret
      exact ⟨⟨m_wq, rfl, by omega, by omega⟩, rdr_mono hR_wq (by omega), gb_trans hg_wp hg_wq⟩

end Go.Proofs.YtoaomjchaihkaaaGreatDoor
namespace Go.Proofs.YtoaomjchaihkaaaGreatDoor
open Go.RowKit
set_option linter.unusedVariables false

set_option maxHeartbeats 8000000 in
set_option maxRecDepth 100000 in
theorem net5_is (R : Nat) (w : World) (h : Rdr 0 w R) :
    Calls Tryz.prog 66 #[.pointer (some ⟨R, 0, none⟩), .int .i64 5] w fun e w' => ∃ (N : Nat) (rs : List Rn) (g cap : Nat), e = .returned (.tuple #[.int .i64 N, .slice (some ⟨g, 0, none⟩) rs.length cap]) ∧ (2 ≤ N ∧ N ≤ 6) ∧ rs.length ≤ 8 ∧ RunsIn w w' R g cap rs ∧ Rdr 60 w' R := by
  have hRl := rdr_lt h
  go_enter Tryz.func66, Tryz.ntmps66
  go_wp2_with ((go_at_call 68; (with_reducible refine (pick_any (0) R (4) _ ?_ (by omega) (by omega) (by omega)).mono ?_); (focus ((repeat (first | with_reducible assumption | (with_reducible refine rdr_drewN ?_ _) | (with_reducible refine rdr_drew ?_) | (with_reducible refine rdr_alloc ?_ _) | (with_reducible refine rdr_setCell ?_ (by first | omega | (simp <;> omega) | simp) _) | (with_reducible refine rdr_chain ?_ (by with_reducible assumption)))); done)); rintro e wa ⟨m_wa, hm0_wa, hm1_wa, rfl, hR_wa, hg_wa, hq_wa⟩; have hs_wa := Nat.le_of_eq hq_wa; have ht_wa := Nat.le_of_eq hq_wa.symm; (try simp at hs_wa); (try simp at ht_wa); clear hq_wa))
  obtain ⟨N, hN⟩ : ∃ N : Nat, 2 + m_wa = (N : Int) := ⟨(2 + m_wa).toNat, by omega⟩
  have hN2 : 2 ≤ N := by omega
  have hN6 : N ≤ 6 := by omega
  rw [hN]
  have HW := Lib.hid (And.intro hR_wa hg_wa)
  have HE := Lib.hid (Own.empty wa 42 4)
  clear h hN hm0_wa hm1_wa hR_wa hg_wa
  go_loopw [7, 8] (fun v i wr => ∃ (k g cap : Nat) (rs : List Rn), k + 1 ≤ N ∧ i = .int .i64 (k + 1 : Nat) ∧ v = .slice (some ⟨g, 0, none⟩) rs.length cap ∧ rs.length ≤ k ∧ Small rs ∧ RunsIn w wr R g cap rs ∧ Rdr (1 + 4 * k) wr R) (fun _ i _ => N - (intOf i).toNat)
  case atStart => exact ⟨0, _, _, [], by omega, rfl, rfl, Nat.le_refl _, Small.nil, ⟨by omega, HE.out, gb_alloc HW.out.2 _⟩, rdr_alloc HW.out.1 _⟩
  case round =>
    clear HE HW hs_wa ht_wa
    obtain ⟨k, g, cap, rs, hk, rfl, rfl, hrl, hsm, ⟨hg, how, hgb⟩, hrd⟩ := hrel
    have hbs := hgb.size
    have hlo := how.lt
    have HO := Lib.hid (And.intro hsm (And.intro how hgb))
    clear hsm how hgb
    by_cases hlt : k + 1 < N
    · have hgR : g ≠ R := by omega
      go_wp2_with ((go_at_call 68; (with_reducible refine (pick_any (1 + 4 * k) R (12) _ ?_ (by omega) (by omega) (by omega)).mono ?_); (focus ((repeat (first | with_reducible assumption | (with_reducible refine rdr_drewN ?_ _) | (with_reducible refine rdr_drew ?_) | (with_reducible refine rdr_alloc ?_ _) | (with_reducible refine rdr_setCell ?_ (by first | omega | (simp <;> omega) | simp) _) | (with_reducible refine rdr_chain ?_ (by with_reducible assumption)))); done)); rintro e wb ⟨m_wb, hm0_wb, hm1_wb, rfl, hR_wb, hg_wb, hq_wb⟩; have hs_wb := Nat.le_of_eq hq_wb; have ht_wb := Nat.le_of_eq hq_wb.symm; (try simp at hs_wb); (try simp at ht_wb); clear hq_wb))
      · go_wp2_with (first | (go_at_call 68; (with_reducible refine (pick_any (1 + 4 * k + 1) R ((k : Int) + 1) _ ?_ (by omega) (by omega) (by omega)).mono ?_); (focus ((repeat (first | with_reducible assumption | (with_reducible refine rdr_drewN ?_ _) | (with_reducible refine rdr_drew ?_) | (with_reducible refine rdr_alloc ?_ _) | (with_reducible refine rdr_setCell ?_ (by first | omega | (simp <;> omega) | simp) _) | (with_reducible refine rdr_chain ?_ (by with_reducible assumption)))); done)); rintro e wc ⟨m_wc, hm0_wc, hm1_wc, rfl, hR_wc, hg_wc, hq_wc⟩; have hs_wc := Nat.le_of_eq hq_wc; have ht_wc := Nat.le_of_eq hq_wc.symm; (try simp at hs_wc); (try simp at ht_wc); clear hq_wc) | (go_at_call 68; (with_reducible refine (pick_any (1 + 4 * k + 1 + 1) R (61) _ ?_ (by omega) (by omega) (by omega)).mono ?_); (focus ((repeat (first | with_reducible assumption | (with_reducible refine rdr_drewN ?_ _) | (with_reducible refine rdr_drew ?_) | (with_reducible refine rdr_alloc ?_ _) | (with_reducible refine rdr_setCell ?_ (by first | omega | (simp <;> omega) | simp) _) | (with_reducible refine rdr_chain ?_ (by with_reducible assumption)))); done)); rintro e wd ⟨m_wd, hm0_wd, hm1_wd, rfl, hR_wd, hg_wd, hq_wd⟩; have hs_wd := Nat.le_of_eq hq_wd; have ht_wd := Nat.le_of_eq hq_wd.symm; (try simp at hs_wd); (try simp at ht_wd); clear hq_wd) | (go_at_call 68; (with_reducible refine (pick_any (1 + 4 * k + 1 + 1 + 1) R (4) _ ?_ (by omega) (by omega) (by omega)).mono ?_); (focus ((repeat (first | with_reducible assumption | (with_reducible refine rdr_drewN ?_ _) | (with_reducible refine rdr_drew ?_) | (with_reducible refine rdr_alloc ?_ _) | (with_reducible refine rdr_setCell ?_ (by first | omega | (simp <;> omega) | simp) _) | (with_reducible refine rdr_chain ?_ (by with_reducible assumption)))); done)); rintro e we ⟨m_we, hm0_we, hm1_we, rfl, hR_we, hg_we, hq_we⟩; have hs_we := Nat.le_of_eq hq_we; have ht_we := Nat.le_of_eq hq_we.symm; (try simp at hs_we); (try simp at ht_we); clear hq_we) | (at_builtin; refine wp_append _ rfl _ _ 23 rfl 42 _ 4 32 Tryz.underlying23 info_run rfl (by decide) (by decide) g rs.length cap (flat rs) rfl (((((HO.out.2.1.grown hg_wb hgR).grown hg_wc hgR).grown hg_wd hgR).grown hg_we hgR).alloc _) _ _ _ _ rfl rfl (four_cells _ _ _ _ _ _) (by omega) ?_; intro g' cap' w' hown hgr hloc hsz; rw [flat_snoc] at hown; have HN := Lib.hid (And.intro hown (And.intro hgr hloc)); clear hown hgr hloc))
        go_roundw
        case rel =>
          obtain ⟨hown, hgr, hloc⟩ := HN.out
          have hg' : w.heap.size ≤ g' := by
            rcases hloc with rfl | rfl
            · exact hg
            · simp; omega
          refine ⟨k + 1, g', cap', rs ++ [⟨_, _, _, _⟩], by omega, by go_num, by simp, by simp; omega, HO.out.1.snoc (c := m_wd - 30) (by omega) (by omega), ⟨hg', by simpa using hown, gb_own (gb_alloc (gb_trans (gb_trans (gb_trans (gb_trans HO.out.2.2 hg_wb) hg_wc) hg_wd) hg_we) _) hgr hg⟩, rdr_mono (rdr_own (rdr_alloc hR_we _) hgr (by omega)) (by omega)⟩
        case measure => simp [intOf]; omega
      · go_roundw
        case rel => exact ⟨k + 1, g, cap, rs, by omega, by go_num, rfl, by omega, HO.out.1, ⟨hg, HO.out.2.1.grown hg_wb hgR, gb_trans HO.out.2.2 hg_wb⟩, rdr_mono hR_wb (by omega)⟩
        case measure => simp [intOf]; omega
    · have hrl5 : rs.length ≤ 5 := by omega
      have hk5 : k ≤ 5 := by omega
      have hgR : g ≠ R := by omega
      go_wp2_with ((go_at_call 68; (with_reducible refine (pick_any (1 + 4 * k) R (4) _ ?_ (by omega) (by omega) (by omega)).mono ?_); (focus ((repeat (first | with_reducible assumption | (with_reducible refine rdr_drewN ?_ _) | (with_reducible refine rdr_drew ?_) | (with_reducible refine rdr_alloc ?_ _) | (with_reducible refine rdr_setCell ?_ (by first | omega | (simp <;> omega) | simp) _) | (with_reducible refine rdr_chain ?_ (by with_reducible assumption)))); done)); rintro e wb ⟨m_wb, hm0_wb, hm1_wb, rfl, hR_wb, hg_wb, hq_wb⟩; have hs_wb := Nat.le_of_eq hq_wb; have ht_wb := Nat.le_of_eq hq_wb.symm; (try simp at hs_wb); (try simp at ht_wb); clear hq_wb))
      obtain ⟨M, hM⟩ : ∃ M : Nat, m_wb = (M : Int) := ⟨m_wb.toNat, by omega⟩
      subst hM
      have hM3 : M ≤ 3 := by omega
      have HR := Lib.hid (rdr_mono hR_wb (show 1 + 4 * k + 1 ≤ 22 by omega))
      have HQ : Hid (Small rs ∧ RunsIn w wb R g cap rs) := Lib.hid ⟨HO.out.1, hg, HO.out.2.1.grown hg_wb hgR, gb_trans HO.out.2.2 hg_wb⟩
      clear hR_wb hg_wb HO hlo hbs hrd hlt hs_wb ht_wb
      go_loopw [7, 10] (fun v i wr => ∃ (q g cap : Nat) (rs : List Rn), q ≤ M ∧ i = .int .i64 q ∧ v = .slice (some ⟨g, 0, none⟩) rs.length cap ∧ rs.length ≤ 5 + q ∧ Small rs ∧ RunsIn w wr R g cap rs ∧ Rdr (22 + 4 * q) wr R) (fun _ i _ => M - (intOf i).toNat)
      case atStart => exact ⟨0, g, cap, rs, Nat.zero_le _, rfl, rfl, hrl5, HQ.out.1, HQ.out.2, HR.out⟩
      case round =>
        clear HQ HR hrl5 hrl hg hgR hk hk5
        rename World => wz
        obtain ⟨q, g, cap, rs, hk, rfl, rfl, hrl, hsm, ⟨hg, how, hgb⟩, hrd⟩ := hrel
        have hbs := hgb.size
        have hlo := how.lt
        have hgR : g ≠ R := by omega
        have HO := Lib.hid (And.intro hsm (And.intro how hgb))
        clear hsm how hgb
        by_cases hlt : q < M
        · go_wp2_with (first | (go_at_call 68; (with_reducible refine (pick_any (22 + 4 * q) R ((N : Int)) _ ?_ (by omega) (by omega) (by omega)).mono ?_); (focus ((repeat (first | with_reducible assumption | (with_reducible refine rdr_drewN ?_ _) | (with_reducible refine rdr_drew ?_) | (with_reducible refine rdr_alloc ?_ _) | (with_reducible refine rdr_setCell ?_ (by first | omega | (simp <;> omega) | simp) _) | (with_reducible refine rdr_chain ?_ (by with_reducible assumption)))); done)); rintro e wb ⟨m_wb, hm0_wb, hm1_wb, rfl, hR_wb, hg_wb, hq_wb⟩; have hs_wb := Nat.le_of_eq hq_wb; have ht_wb := Nat.le_of_eq hq_wb.symm; (try simp at hs_wb); (try simp at ht_wb); clear hq_wb) | (go_at_call 68; (with_reducible refine (pick_any (22 + 4 * q + 1) R ((N : Int) - 1) _ ?_ (by omega) (by omega) (by omega)).mono ?_); (focus ((repeat (first | with_reducible assumption | (with_reducible refine rdr_drewN ?_ _) | (with_reducible refine rdr_drew ?_) | (with_reducible refine rdr_alloc ?_ _) | (with_reducible refine rdr_setCell ?_ (by first | omega | (simp <;> omega) | simp) _) | (with_reducible refine rdr_chain ?_ (by with_reducible assumption)))); done)); rintro e wc ⟨m_wc, hm0_wc, hm1_wc, rfl, hR_wc, hg_wc, hq_wc⟩; have hs_wc := Nat.le_of_eq hq_wc; have ht_wc := Nat.le_of_eq hq_wc.symm; (try simp at hs_wc); (try simp at ht_wc); clear hq_wc) | (go_at_call 68; (with_reducible refine (pick_any (22 + 4 * q + 1 + 1) R (61) _ ?_ (by omega) (by omega) (by omega)).mono ?_); (focus ((repeat (first | with_reducible assumption | (with_reducible refine rdr_drewN ?_ _) | (with_reducible refine rdr_drew ?_) | (with_reducible refine rdr_alloc ?_ _) | (with_reducible refine rdr_setCell ?_ (by first | omega | (simp <;> omega) | simp) _) | (with_reducible refine rdr_chain ?_ (by with_reducible assumption)))); done)); rintro e wd ⟨m_wd, hm0_wd, hm1_wd, rfl, hR_wd, hg_wd, hq_wd⟩; have hs_wd := Nat.le_of_eq hq_wd; have ht_wd := Nat.le_of_eq hq_wd.symm; (try simp at hs_wd); (try simp at ht_wd); clear hq_wd) | (go_at_call 68; (with_reducible refine (pick_any (22 + 4 * q + 1 + 1 + 1) R (4) _ ?_ (by omega) (by omega) (by omega)).mono ?_); (focus ((repeat (first | with_reducible assumption | (with_reducible refine rdr_drewN ?_ _) | (with_reducible refine rdr_drew ?_) | (with_reducible refine rdr_alloc ?_ _) | (with_reducible refine rdr_setCell ?_ (by first | omega | (simp <;> omega) | simp) _) | (with_reducible refine rdr_chain ?_ (by with_reducible assumption)))); done)); rintro e we ⟨m_we, hm0_we, hm1_we, rfl, hR_we, hg_we, hq_we⟩; have hs_we := Nat.le_of_eq hq_we; have ht_we := Nat.le_of_eq hq_we.symm; (try simp at hs_we); (try simp at ht_we); clear hq_we) | (at_builtin; refine wp_append _ rfl _ _ 23 rfl 42 _ 4 32 Tryz.underlying23 info_run rfl (by decide) (by decide) g rs.length cap (flat rs) rfl (((((HO.out.2.1.grown hg_wb hgR).grown hg_wc hgR).grown hg_wd hgR).grown hg_we hgR).alloc _) _ _ _ _ rfl rfl (four_cells _ _ _ _ _ _) (by omega) ?_; intro g' cap' w' hown hgr hloc hsz; rw [flat_snoc] at hown; have HN := Lib.hid (And.intro hown (And.intro hgr hloc)); clear hown hgr hloc))
          go_roundw
          case rel =>
            obtain ⟨hown, hgr, hloc⟩ := HN.out
            have hg' : w.heap.size ≤ g' := by
              rcases hloc with rfl | rfl
              · exact hg
              · simp; omega
            refine ⟨q + 1, g', cap', rs ++ [⟨_, _, _, _⟩], by omega, by go_num, by simp, by simp; omega, HO.out.1.snoc (c := m_wd - 30) (by omega) (by omega), ⟨hg', by simpa using hown, gb_own (gb_alloc (gb_trans (gb_trans (gb_trans (gb_trans HO.out.2.2 hg_wb) hg_wc) hg_wd) hg_we) _) hgr hg⟩, rdr_mono (rdr_own (rdr_alloc hR_we _) hgr (by omega)) (by omega)⟩
          case measure => simp [intOf]; omega
        · have hrl8 : rs.length ≤ 8 := by omega
          have HQ : Hid (Small rs ∧ RunsIn w wz R g cap rs ∧ Rdr 34 wz R) := Lib.hid ⟨HO.out.1, ⟨hg, HO.out.2.1, HO.out.2.2⟩, rdr_mono hrd (by omega)⟩
          clear HO hlo hbs hrd
          go_wp2_with fail
          clear hlt
          go_loopw [13] (fun i wr => ∃ (q : Nat) (rs' : List Rn), rs'.length = rs.length ∧ q ≤ rs.length ∧ i = .int .i64 q ∧ Small rs' ∧ RunsIn w wr R g cap rs' ∧ Rdr (34 + q) wr R) (fun i _ => rs.length - (intOf i).toNat)
          case atStart => exact ⟨0, rs, rfl, Nat.zero_le _, rfl, HQ.out.1, HQ.out.2.1, HQ.out.2.2⟩
          case round =>
            clear HQ hrl
            rename World => wy
            obtain ⟨q, rs', hrr, hk, rfl, hsm, ⟨hg', how, hgb⟩, hrd⟩ := hrel
            have hbs := hgb.size
            have hlo := how.lt
            have HO := Lib.hid (And.intro hsm (And.intro how hgb))
            have HRR := Lib.hid hrr
            clear hsm how hgb hg' hrr
            by_cases hlt : q < rs.length
            · obtain ⟨r, hr⟩ : ∃ r, rs'[q]? = some r := ⟨_, List.getElem?_eq_getElem (by have := HRR.out; omega)⟩
              obtain ⟨hs1, hs2⟩ := HO.out.1 r (List.mem_of_getElem? hr)
              obtain ⟨x0, x1, x2, x3⟩ := HO.out.2.1.runAt hr
              have hf0 := HO.out.2.1.frozen (q * 4)
              have hf1 := HO.out.2.1.frozen (q * 4 + 1)
              have hf2 := HO.out.2.1.frozen (q * 4 + 2)
              have hf3 := HO.out.2.1.frozen (q * 4 + 3)
              have HR := Lib.hid hr
              clear hr
              go_wp2_with ((go_at_call 68; (with_reducible refine (pick_any (34 + q) R (3) _ ?_ (by omega) (by omega) (by omega)).mono ?_); (focus ((repeat (first | with_reducible assumption | (with_reducible refine rdr_drewN ?_ _) | (with_reducible refine rdr_drew ?_) | (with_reducible refine rdr_alloc ?_ _) | (with_reducible refine rdr_setCell ?_ (by first | omega | (simp <;> omega) | simp) _) | (with_reducible refine rdr_chain ?_ (by with_reducible assumption)))); done)); rintro e wb ⟨m_wb, hm0_wb, hm1_wb, rfl, hR_wb, hg_wb, hq_wb⟩; have hs_wb := Nat.le_of_eq hq_wb; have ht_wb := Nat.le_of_eq hq_wb.symm; (try simp at hs_wb); (try simp at ht_wb); clear hq_wb); obtain ⟨hcn, hfn⟩ := gcell hg_wb; have hlb : g < wb.heap.size := (by omega))
              · go_roundw
                case rel =>
                  have hlt' : q < rs'.length := by have := HRR.out; omega
                  have h4 := ((show RunsIn w _ R g cap rs' from ⟨hg, HO.out.2.1, HO.out.2.2⟩).moved hg_wb hgR).set4 hlt' r.t r.f (-r.s) r.g
                  exact ⟨q + 1, _, by simpa using HRR.out, by omega, by go_num, HO.out.1.set (by simp; omega) (by simp; omega), h4.alloc _, rdr_mono (rdr_alloc (rdr_set4 hR_wb (by omega) 0 _ _ _ _ _ _ _ _) _) (by omega)⟩
                case measure => simp [intOf]; omega
              · go_roundw
                case rel => exact ⟨q + 1, rs', HRR.out, by omega, by go_num, HO.out.1, ⟨hg, HO.out.2.1.grown hg_wb hgR, gb_trans HO.out.2.2 hg_wb⟩, rdr_mono hR_wb (by omega)⟩
                case measure => simp [intOf]; omega
            · -- the tail
              have hRI : Hid (RunsIn w _ R g cap rs' ∧ Rdr 42 _ R) := Lib.hid ⟨⟨hg, HO.out.2.1, HO.out.2.2⟩, rdr_mono hrd (by omega)⟩
              clear HO hrd
              have hrd42 := hRI.out.2
              by_cases h2 : 1 < rs.length
              · have h2' : (1 : Int) < (rs.length : Int) := by omega
                have h1' : (0 : Int) < (rs.length : Int) := by omega
                go_upto_region 23 with ((go_at_call 68; (with_reducible refine (pick_any (42) R ((rs.length : Int)) _ ?_ (by omega) (by omega) (by omega)).mono ?_); (focus ((repeat (first | with_reducible assumption | (with_reducible refine rdr_drewN ?_ _) | (with_reducible refine rdr_drew ?_) | (with_reducible refine rdr_alloc ?_ _) | (with_reducible refine rdr_setCell ?_ (by first | omega | (simp <;> omega) | simp) _) | (with_reducible refine rdr_chain ?_ (by with_reducible assumption)))); done)); rintro e wb ⟨m_wb, hm0_wb, hm1_wb, rfl, hR_wb, hg_wb, hq_wb⟩; have hs_wb := Nat.le_of_eq hq_wb; have ht_wb := Nat.le_of_eq hq_wb.symm; (try simp at hs_wb); (try simp at ht_wb); clear hq_wb))
                have OB := Lib.hid (And.intro (hRI.out.1.moved hg_wb hgR) hR_wb)
                obtain ⟨mk', hmk⟩ : ∃ mk' : Nat, m_wb = (mk' : Int) := ⟨m_wb.toNat, by omega⟩
                subst hmk
                obtain ⟨r0, hr0⟩ : ∃ r0, rs'[0]? = some r0 := ⟨_, List.getElem?_eq_getElem (by rw [HRR.out]; omega)⟩
                obtain ⟨rk, hrk⟩ : ∃ rk, rs'[mk']? = some rk := ⟨_, List.getElem?_eq_getElem (by rw [HRR.out]; omega)⟩
                have hlb := OB.out.1.2.1.lt
                obtain ⟨y0, y1, y2, y3⟩ := OB.out.1.2.1.runAt hr0
                simp only [Nat.zero_mul, Nat.zero_add] at y0 y1 y2 y3
                have hp0 := OB.out.1.2.1.frozen 0
                have hp1 := OB.out.1.2.1.frozen 1
                have hp2 := OB.out.1.2.1.frozen 2
                have hp3 := OB.out.1.2.1.frozen 3
                have hz1 : 0 < rs'.length := by rw [HRR.out]; omega
                have hz2 : mk' < rs'.length := by rw [HRR.out]; omega
                have HZ := Lib.hid (And.intro hz1 hz2)
                clear hRI hg_wb hR_wb hrd42 hz1 hz2
                rcases Nat.eq_zero_or_pos mk' with rfl | hpos
                · obtain rfl : r0 = rk := by rw [hr0] at hrk; cases hrk; rfl
                  clear hr0 hrk
                  go_upto_region 26 with fail
                  refine gen_world (fun W => ∃ rs2 : List Rn, rs2.length = rs.length ∧ RunsIn w W R g cap rs2 ∧ Rdr 43 W R) ?_ (fun w3 hp => ?_)
                  · have h4 := (((OB.out.1.set4 (i := 0) HZ.out.1 r0.f r0.t r0.s r0.g).set4 (i := 0) (by simpa using HZ.out.1) r0.f r0.t r0.s r0.g).alloc (.cells #[.int .i64 r0.f, .int .i64 r0.t, .int .i64 r0.s, .int .i64 r0.g] 42))
                    have h5 := rdr_alloc (rdr_set4 (rdr_set4 OB.out.2 (by omega : R < g) 0 0 1 2 3 (.int .i64 r0.f) (.int .i64 r0.t) (.int .i64 r0.s) (.int .i64 r0.g)) (by omega : R < g) 0 0 1 2 3 (.int .i64 r0.f) (.int .i64 r0.t) (.int .i64 r0.s) (.int .i64 r0.g)) (.cells #[.int .i64 r0.f, .int .i64 r0.t, .int .i64 r0.s, .int .i64 r0.g] 42)
                    exact ⟨(rs'.set 0 ⟨r0.f, r0.t, r0.s, r0.g⟩).set 0 ⟨r0.f, r0.t, r0.s, r0.g⟩, by simpa using HRR.out, by simpa using h4, by simpa using h5⟩
                  clear y0 y1 y2 y3 hp0 hp1 hp2 hp3 OB HZ
                  obtain ⟨rs2, hl2, hr2, hrd2⟩ := hp
                  have hgs3 := hr2.2.2.size
                  have hlo3 := hr2.2.1.lt
                  have HR2 := Lib.hid (And.intro hl2 hr2)
                  clear hl2 hr2
                  go_upto_region 28 with ((go_at_call 68; (with_reducible refine (pick_any (43) R (50) _ ?_ (by omega) (by omega) (by omega)).mono ?_); (focus ((repeat (first | with_reducible assumption | (with_reducible refine rdr_drewN ?_ _) | (with_reducible refine rdr_drew ?_) | (with_reducible refine rdr_alloc ?_ _) | (with_reducible refine rdr_setCell ?_ (by first | omega | (simp <;> omega) | simp) _) | (with_reducible refine rdr_chain ?_ (by with_reducible assumption)))); done)); rintro e wp ⟨m_wp, hm0_wp, hm1_wp, rfl, hR_wp, hg_wp, hq_wp⟩; have hs_wp := Nat.le_of_eq hq_wp; have ht_wp := Nat.le_of_eq hq_wp.symm; (try simp at hs_wp); (try simp at ht_wp); clear hq_wp))
                  have op := HR2.out.2.moved hg_wp hgR
                  obtain ⟨r1, hr1⟩ : ∃ r1, rs2[0]? = some r1 := ⟨_, List.getElem?_eq_getElem (by rw [HR2.out.1]; omega)⟩
                  obtain ⟨y0, y1, y2, y3⟩ := op.2.1.runAt hr1
                  simp only [Nat.zero_mul, Nat.zero_add] at y0 y1 y2 y3
                  have hp0 := op.2.1.frozen 0
                  have hp1 := op.2.1.frozen 1
                  have hp2 := op.2.1.frozen 2
                  have hp3 := op.2.1.frozen 3
                  have hlp := op.2.1.lt
                  have OP := Lib.hid (And.intro op hR_wp)
                  have hl2' : 0 < rs2.length := by rw [HR2.out.1]; omega
                  have hl2 := HR2.out.1
                  have HL2 := Lib.hid hl2
                  clear op hr1 hg_wp hrd2 hR_wp hl2 HR2
                  have hrdp := OP.out.2
                  go_wp2_with ((go_at_call 68; (with_reducible refine (pick_any (44) R (2) _ ?_ (by omega) (by omega) (by omega)).mono ?_); (focus ((repeat (first | with_reducible assumption | (with_reducible refine rdr_drewN ?_ _) | (with_reducible refine rdr_drew ?_) | (with_reducible refine rdr_alloc ?_ _) | (with_reducible refine rdr_setCell ?_ (by first | omega | (simp <;> omega) | simp) _) | (with_reducible refine rdr_chain ?_ (by with_reducible assumption)))); done)); rintro e wq ⟨m_wq, hm0_wq, hm1_wq, rfl, hR_wq, hg_wq, hq_wq⟩; have hs_wq := Nat.le_of_eq hq_wq; have ht_wq := Nat.le_of_eq hq_wq.symm; (try simp at hs_wq); (try simp at ht_wq); clear hq_wq); obtain ⟨zq, hzq⟩ := two_at m_wq hm0_wq hm1_wq 0 10; have ez : wq.cell? ⟨wp.heap.size, m_wq.toNat, none⟩ = some (.int .i64 zq) := (by rw [(gcell hg_wq).1 _ _ (by simp) (by omega)]; simp [hzq]); have oq := (OP.out.1.alloc (.cells #[.int .i64 0, .int .i64 10] 3)).moved hg_wq hgR; have hq3 := oq.2.1.frozen 3; have q3 : wq.cell? ⟨g, 3, none⟩ = some (.int .i64 r1.g) := (by rw [(gcell hg_wq).1 _ _ (by simp; omega) (by omega)]; simp [*, go_sem]); have hlq := oq.2.1.lt; have OQ := Lib.hid (And.intro oq hR_wq); clear oq)
                  · obtain ⟨rs3, hl3, hr3⟩ := OP.out.1.any hl2' (j := 1) (by decide) r1.f
                    refine bodyPost_ret (v := .tuple #[.int .i64 N, .slice (some ⟨g, 0, none⟩) rs.length cap]) (by simp [results, Tryz.results66, go_sem]) rfl ⟨N, rs3, g, cap, by rw [hl3, HL2.out], ⟨hN2, hN6⟩, by rw [hl3, HL2.out]; omega, hr3, rdr_mono (rdr_setCell (a := ⟨g, 1, none⟩) OP.out.2 (by omega : R < g) _) (by omega)⟩
                  · obtain ⟨rs3, hl3, hr3⟩ := OQ.out.1.any hl2' (j := 3) (by decide) zq
                    refine bodyPost_ret (v := .tuple #[.int .i64 N, .slice (some ⟨g, 0, none⟩) rs.length cap]) (by simp [results, Tryz.results66, go_sem]) rfl ⟨N, rs3, g, cap, by rw [hl3, HL2.out], ⟨hN2, hN6⟩, by rw [hl3, HL2.out]; omega, hr3, rdr_mono (rdr_setCell (a := ⟨g, 3, none⟩) OQ.out.2 (by omega : R < g) _) (by omega)⟩
                  · obtain ⟨rs3, hl3, hr3⟩ := OP.out.1.any hl2' (j := 2) (by decide) 100001
                    refine bodyPost_ret (v := .tuple #[.int .i64 N, .slice (some ⟨g, 0, none⟩) rs.length cap]) (by simp [results, Tryz.results66, go_sem]) rfl ⟨N, rs3, g, cap, by rw [hl3, HL2.out], ⟨hN2, hN6⟩, by rw [hl3, HL2.out]; omega, hr3, rdr_mono (rdr_setCell (a := ⟨g, 2, none⟩) OP.out.2 (by omega : R < g) _) (by omega)⟩
                  · obtain ⟨rs3, hl3, hr3⟩ := OP.out.1.any hl2' (j := 1) (by decide) N
                    refine bodyPost_ret (v := .tuple #[.int .i64 N, .slice (some ⟨g, 0, none⟩) rs.length cap]) (by simp [results, Tryz.results66, go_sem]) rfl ⟨N, rs3, g, cap, by rw [hl3, HL2.out], ⟨hN2, hN6⟩, by rw [hl3, HL2.out]; omega, hr3, rdr_mono (rdr_setCell (a := ⟨g, 1, none⟩) OP.out.2 (by omega : R < g) _) (by omega)⟩
                  · refine bodyPost_ret (v := .tuple #[.int .i64 N, .slice (some ⟨g, 0, none⟩) rs.length cap]) (by simp [results, Tryz.results66, go_sem]) rfl ⟨N, rs2, g, cap, by rw [HL2.out], ⟨hN2, hN6⟩, by rw [HL2.out]; omega, OP.out.1, rdr_mono OP.out.2 (by omega)⟩
                · obtain ⟨z0, z1, z2, z3⟩ := OB.out.1.2.1.runAt hrk
                  have hk0 := OB.out.1.2.1.frozen (mk' * 4)
                  have hk1 := OB.out.1.2.1.frozen (mk' * 4 + 1)
                  have hk2 := OB.out.1.2.1.frozen (mk' * 4 + 2)
                  have hk3 := OB.out.1.2.1.frozen (mk' * 4 + 3)
                  have n00 : ¬ mk' * 4 = 0 := by omega
                  have n01 : ¬ mk' * 4 = 1 := by omega
                  have n02 : ¬ mk' * 4 = 2 := by omega
                  have n03 : ¬ mk' * 4 = 3 := by omega
                  have n11 : ¬ mk' * 4 + 1 = 1 := by omega
                  have n12 : ¬ mk' * 4 + 1 = 2 := by omega
                  have n13 : ¬ mk' * 4 + 1 = 3 := by omega
                  have n22 : ¬ mk' * 4 + 2 = 2 := by omega
                  have n23 : ¬ mk' * 4 + 2 = 3 := by omega
                  have n33 : ¬ mk' * 4 + 3 = 3 := by omega
                  have np : ¬ mk' = 0 := by omega
                  clear hr0 hrk
                  go_upto_region 26 with fail
                  refine gen_world (fun W => ∃ rs2 : List Rn, rs2.length = rs.length ∧ RunsIn w W R g cap rs2 ∧ Rdr 43 W R) ?_ (fun w3 hp => ?_)
                  · have h4 := (((OB.out.1.set4 (i := 0) HZ.out.1 rk.f rk.t rk.s rk.g).set4 (i := mk') (by simpa using HZ.out.2) r0.f r0.t r0.s r0.g).alloc (.cells #[.int .i64 r0.f, .int .i64 r0.t, .int .i64 r0.s, .int .i64 r0.g] 42))
                    have h5 := rdr_alloc (rdr_set4 (rdr_set4 OB.out.2 (by omega : R < g) 0 0 1 2 3 (.int .i64 rk.f) (.int .i64 rk.t) (.int .i64 rk.s) (.int .i64 rk.g)) (by omega : R < g) 0 (mk' * 4) (mk' * 4 + 1) (mk' * 4 + 2) (mk' * 4 + 3) (.int .i64 r0.f) (.int .i64 r0.t) (.int .i64 r0.s) (.int .i64 r0.g)) (.cells #[.int .i64 r0.f, .int .i64 r0.t, .int .i64 r0.s, .int .i64 r0.g] 42)
                    exact ⟨(rs'.set 0 ⟨rk.f, rk.t, rk.s, rk.g⟩).set mk' ⟨r0.f, r0.t, r0.s, r0.g⟩, by simpa using HRR.out, by simpa using h4, by simpa using h5⟩
                  clear y0 y1 y2 y3 hp0 hp1 hp2 hp3 OB HZ z0 z1 z2 z3 hk0 hk1 hk2 hk3 n00 n01 n02 n03 n11 n12 n13 n22 n23 n33
                  obtain ⟨rs2, hl2, hr2, hrd2⟩ := hp
                  have hgs3 := hr2.2.2.size
                  have hlo3 := hr2.2.1.lt
                  have HR2 := Lib.hid (And.intro hl2 hr2)
                  clear hl2 hr2
                  go_upto_region 28 with ((go_at_call 68; (with_reducible refine (pick_any (43) R (50) _ ?_ (by omega) (by omega) (by omega)).mono ?_); (focus ((repeat (first | with_reducible assumption | (with_reducible refine rdr_drewN ?_ _) | (with_reducible refine rdr_drew ?_) | (with_reducible refine rdr_alloc ?_ _) | (with_reducible refine rdr_setCell ?_ (by first | omega | (simp <;> omega) | simp) _) | (with_reducible refine rdr_chain ?_ (by with_reducible assumption)))); done)); rintro e wp ⟨m_wp, hm0_wp, hm1_wp, rfl, hR_wp, hg_wp, hq_wp⟩; have hs_wp := Nat.le_of_eq hq_wp; have ht_wp := Nat.le_of_eq hq_wp.symm; (try simp at hs_wp); (try simp at ht_wp); clear hq_wp))
                  have op := HR2.out.2.moved hg_wp hgR
                  obtain ⟨r1, hr1⟩ : ∃ r1, rs2[0]? = some r1 := ⟨_, List.getElem?_eq_getElem (by rw [HR2.out.1]; omega)⟩
                  obtain ⟨y0, y1, y2, y3⟩ := op.2.1.runAt hr1
                  simp only [Nat.zero_mul, Nat.zero_add] at y0 y1 y2 y3
                  have hp0 := op.2.1.frozen 0
                  have hp1 := op.2.1.frozen 1
                  have hp2 := op.2.1.frozen 2
                  have hp3 := op.2.1.frozen 3
                  have hlp := op.2.1.lt
                  have OP := Lib.hid (And.intro op hR_wp)
                  have hl2' : 0 < rs2.length := by rw [HR2.out.1]; omega
                  have hl2 := HR2.out.1
                  have HL2 := Lib.hid hl2
                  clear op hr1 hg_wp hrd2 hR_wp hl2 HR2
                  have hrdp := OP.out.2
                  go_wp2_with ((go_at_call 68; (with_reducible refine (pick_any (44) R (2) _ ?_ (by omega) (by omega) (by omega)).mono ?_); (focus ((repeat (first | with_reducible assumption | (with_reducible refine rdr_drewN ?_ _) | (with_reducible refine rdr_drew ?_) | (with_reducible refine rdr_alloc ?_ _) | (with_reducible refine rdr_setCell ?_ (by first | omega | (simp <;> omega) | simp) _) | (with_reducible refine rdr_chain ?_ (by with_reducible assumption)))); done)); rintro e wq ⟨m_wq, hm0_wq, hm1_wq, rfl, hR_wq, hg_wq, hq_wq⟩; have hs_wq := Nat.le_of_eq hq_wq; have ht_wq := Nat.le_of_eq hq_wq.symm; (try simp at hs_wq); (try simp at ht_wq); clear hq_wq); obtain ⟨zq, hzq⟩ := two_at m_wq hm0_wq hm1_wq 0 10; have ez : wq.cell? ⟨wp.heap.size, m_wq.toNat, none⟩ = some (.int .i64 zq) := (by rw [(gcell hg_wq).1 _ _ (by simp) (by omega)]; simp [hzq]); have oq := (OP.out.1.alloc (.cells #[.int .i64 0, .int .i64 10] 3)).moved hg_wq hgR; have hq3 := oq.2.1.frozen 3; have q3 : wq.cell? ⟨g, 3, none⟩ = some (.int .i64 r1.g) := (by rw [(gcell hg_wq).1 _ _ (by simp; omega) (by omega)]; simp [*, go_sem]); have hlq := oq.2.1.lt; have OQ := Lib.hid (And.intro oq hR_wq); clear oq)
                  · obtain ⟨rs3, hl3, hr3⟩ := OP.out.1.any hl2' (j := 1) (by decide) r1.f
                    refine bodyPost_ret (v := .tuple #[.int .i64 N, .slice (some ⟨g, 0, none⟩) rs.length cap]) (by simp [results, Tryz.results66, go_sem]) rfl ⟨N, rs3, g, cap, by rw [hl3, HL2.out], ⟨hN2, hN6⟩, by rw [hl3, HL2.out]; omega, hr3, rdr_mono (rdr_setCell (a := ⟨g, 1, none⟩) OP.out.2 (by omega : R < g) _) (by omega)⟩
                  · obtain ⟨rs3, hl3, hr3⟩ := OQ.out.1.any hl2' (j := 3) (by decide) zq
                    refine bodyPost_ret (v := .tuple #[.int .i64 N, .slice (some ⟨g, 0, none⟩) rs.length cap]) (by simp [results, Tryz.results66, go_sem]) rfl ⟨N, rs3, g, cap, by rw [hl3, HL2.out], ⟨hN2, hN6⟩, by rw [hl3, HL2.out]; omega, hr3, rdr_mono (rdr_setCell (a := ⟨g, 3, none⟩) OQ.out.2 (by omega : R < g) _) (by omega)⟩
                  · obtain ⟨rs3, hl3, hr3⟩ := OP.out.1.any hl2' (j := 2) (by decide) 100001
                    refine bodyPost_ret (v := .tuple #[.int .i64 N, .slice (some ⟨g, 0, none⟩) rs.length cap]) (by simp [results, Tryz.results66, go_sem]) rfl ⟨N, rs3, g, cap, by rw [hl3, HL2.out], ⟨hN2, hN6⟩, by rw [hl3, HL2.out]; omega, hr3, rdr_mono (rdr_setCell (a := ⟨g, 2, none⟩) OP.out.2 (by omega : R < g) _) (by omega)⟩
                  · obtain ⟨rs3, hl3, hr3⟩ := OP.out.1.any hl2' (j := 1) (by decide) N
                    refine bodyPost_ret (v := .tuple #[.int .i64 N, .slice (some ⟨g, 0, none⟩) rs.length cap]) (by simp [results, Tryz.results66, go_sem]) rfl ⟨N, rs3, g, cap, by rw [hl3, HL2.out], ⟨hN2, hN6⟩, by rw [hl3, HL2.out]; omega, hr3, rdr_mono (rdr_setCell (a := ⟨g, 1, none⟩) OP.out.2 (by omega : R < g) _) (by omega)⟩
                  · refine bodyPost_ret (v := .tuple #[.int .i64 N, .slice (some ⟨g, 0, none⟩) rs.length cap]) (by simp [results, Tryz.results66, go_sem]) rfl ⟨N, rs2, g, cap, by rw [HL2.out], ⟨hN2, hN6⟩, by rw [HL2.out]; omega, OP.out.1, rdr_mono OP.out.2 (by omega)⟩
              · have h2' : ¬ (1 : Int) < (rs.length : Int) := by omega
                by_cases h1 : 0 < rs.length
                · have h1' : (0 : Int) < (rs.length : Int) := by omega
                  go_upto_region 26 with fail
                  refine gen_world (fun W => ∃ rs2 : List Rn, rs2.length = rs.length ∧ RunsIn w W R g cap rs2 ∧ Rdr 43 W R) ⟨rs', HRR.out, hRI.out.1, rdr_mono hrd42 (by omega)⟩ (fun w3 hp => ?_)
                  clear hRI hrd42
                  obtain ⟨rs2, hl2, hr2, hrd2⟩ := hp
                  have hgs3 := hr2.2.2.size
                  have hlo3 := hr2.2.1.lt
                  have HR2 := Lib.hid (And.intro hl2 hr2)
                  clear hl2 hr2
                  go_upto_region 28 with ((go_at_call 68; (with_reducible refine (pick_any (43) R (50) _ ?_ (by omega) (by omega) (by omega)).mono ?_); (focus ((repeat (first | with_reducible assumption | (with_reducible refine rdr_drewN ?_ _) | (with_reducible refine rdr_drew ?_) | (with_reducible refine rdr_alloc ?_ _) | (with_reducible refine rdr_setCell ?_ (by first | omega | (simp <;> omega) | simp) _) | (with_reducible refine rdr_chain ?_ (by with_reducible assumption)))); done)); rintro e wp ⟨m_wp, hm0_wp, hm1_wp, rfl, hR_wp, hg_wp, hq_wp⟩; have hs_wp := Nat.le_of_eq hq_wp; have ht_wp := Nat.le_of_eq hq_wp.symm; (try simp at hs_wp); (try simp at ht_wp); clear hq_wp))
                  have op := HR2.out.2.moved hg_wp hgR
                  obtain ⟨r1, hr1⟩ : ∃ r1, rs2[0]? = some r1 := ⟨_, List.getElem?_eq_getElem (by rw [HR2.out.1]; omega)⟩
                  obtain ⟨y0, y1, y2, y3⟩ := op.2.1.runAt hr1
                  simp only [Nat.zero_mul, Nat.zero_add] at y0 y1 y2 y3
                  have hp0 := op.2.1.frozen 0
                  have hp1 := op.2.1.frozen 1
                  have hp2 := op.2.1.frozen 2
                  have hp3 := op.2.1.frozen 3
                  have hlp := op.2.1.lt
                  have OP := Lib.hid (And.intro op hR_wp)
                  have hl2' : 0 < rs2.length := by rw [HR2.out.1]; omega
                  have hl2 := HR2.out.1
                  have HL2 := Lib.hid hl2
                  clear op hr1 hg_wp hrd2 hR_wp hl2 HR2
                  have hrdp := OP.out.2
                  go_wp2_with ((go_at_call 68; (with_reducible refine (pick_any (44) R (2) _ ?_ (by omega) (by omega) (by omega)).mono ?_); (focus ((repeat (first | with_reducible assumption | (with_reducible refine rdr_drewN ?_ _) | (with_reducible refine rdr_drew ?_) | (with_reducible refine rdr_alloc ?_ _) | (with_reducible refine rdr_setCell ?_ (by first | omega | (simp <;> omega) | simp) _) | (with_reducible refine rdr_chain ?_ (by with_reducible assumption)))); done)); rintro e wq ⟨m_wq, hm0_wq, hm1_wq, rfl, hR_wq, hg_wq, hq_wq⟩; have hs_wq := Nat.le_of_eq hq_wq; have ht_wq := Nat.le_of_eq hq_wq.symm; (try simp at hs_wq); (try simp at ht_wq); clear hq_wq); obtain ⟨zq, hzq⟩ := two_at m_wq hm0_wq hm1_wq 0 10; have ez : wq.cell? ⟨wp.heap.size, m_wq.toNat, none⟩ = some (.int .i64 zq) := (by rw [(gcell hg_wq).1 _ _ (by simp) (by omega)]; simp [hzq]); have oq := (OP.out.1.alloc (.cells #[.int .i64 0, .int .i64 10] 3)).moved hg_wq hgR; have hq3 := oq.2.1.frozen 3; have q3 : wq.cell? ⟨g, 3, none⟩ = some (.int .i64 r1.g) := (by rw [(gcell hg_wq).1 _ _ (by simp; omega) (by omega)]; simp [*, go_sem]); have hlq := oq.2.1.lt; have OQ := Lib.hid (And.intro oq hR_wq); clear oq)
                  · obtain ⟨rs3, hl3, hr3⟩ := OP.out.1.any hl2' (j := 1) (by decide) r1.f
                    refine bodyPost_ret (v := .tuple #[.int .i64 N, .slice (some ⟨g, 0, none⟩) rs.length cap]) (by simp [results, Tryz.results66, go_sem]) rfl ⟨N, rs3, g, cap, by rw [hl3, HL2.out], ⟨hN2, hN6⟩, by rw [hl3, HL2.out]; omega, hr3, rdr_mono (rdr_setCell (a := ⟨g, 1, none⟩) OP.out.2 (by omega : R < g) _) (by omega)⟩
                  · obtain ⟨rs3, hl3, hr3⟩ := OQ.out.1.any hl2' (j := 3) (by decide) zq
                    refine bodyPost_ret (v := .tuple #[.int .i64 N, .slice (some ⟨g, 0, none⟩) rs.length cap]) (by simp [results, Tryz.results66, go_sem]) rfl ⟨N, rs3, g, cap, by rw [hl3, HL2.out], ⟨hN2, hN6⟩, by rw [hl3, HL2.out]; omega, hr3, rdr_mono (rdr_setCell (a := ⟨g, 3, none⟩) OQ.out.2 (by omega : R < g) _) (by omega)⟩
                  · obtain ⟨rs3, hl3, hr3⟩ := OP.out.1.any hl2' (j := 2) (by decide) 100001
                    refine bodyPost_ret (v := .tuple #[.int .i64 N, .slice (some ⟨g, 0, none⟩) rs.length cap]) (by simp [results, Tryz.results66, go_sem]) rfl ⟨N, rs3, g, cap, by rw [hl3, HL2.out], ⟨hN2, hN6⟩, by rw [hl3, HL2.out]; omega, hr3, rdr_mono (rdr_setCell (a := ⟨g, 2, none⟩) OP.out.2 (by omega : R < g) _) (by omega)⟩
                  · obtain ⟨rs3, hl3, hr3⟩ := OP.out.1.any hl2' (j := 1) (by decide) N
                    refine bodyPost_ret (v := .tuple #[.int .i64 N, .slice (some ⟨g, 0, none⟩) rs.length cap]) (by simp [results, Tryz.results66, go_sem]) rfl ⟨N, rs3, g, cap, by rw [hl3, HL2.out], ⟨hN2, hN6⟩, by rw [hl3, HL2.out]; omega, hr3, rdr_mono (rdr_setCell (a := ⟨g, 1, none⟩) OP.out.2 (by omega : R < g) _) (by omega)⟩
                  · refine bodyPost_ret (v := .tuple #[.int .i64 N, .slice (some ⟨g, 0, none⟩) rs.length cap]) (by simp [results, Tryz.results66, go_sem]) rfl ⟨N, rs2, g, cap, by rw [HL2.out], ⟨hN2, hN6⟩, by rw [HL2.out]; omega, OP.out.1, rdr_mono OP.out.2 (by omega)⟩
                · have h1' : ¬ (0 : Int) < (rs.length : Int) := by omega
                  go_wp2_with fail
                  refine bodyPost_ret (v := .tuple #[.int .i64 N, .slice (some ⟨g, 0, none⟩) rs.length cap]) (by simp [results, Tryz.results66, go_sem]) rfl ⟨N, rs', g, cap, by rw [HRR.out], ⟨hN2, hN6⟩, by rw [HRR.out]; omega, hRI.out.1, rdr_mono hrd42 (by omega)⟩
end Go.Proofs.YtoaomjchaihkaaaGreatDoor
namespace Go.Proofs.YtoaomjchaihkaaaGreatDoor
open Go.RowKit
set_option linter.unusedVariables false

end Go.Proofs.YtoaomjchaihkaaaGreatDoor
