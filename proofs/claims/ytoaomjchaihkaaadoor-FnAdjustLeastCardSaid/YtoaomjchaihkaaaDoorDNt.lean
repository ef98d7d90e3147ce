/-
  What the draw of a net and heights to try gives: a net of at most eight runs and a list of heights, often one for each node, by new memory alone.
-/
import Derived.Test.YtoaomjchaihkaaaDoorDNq
namespace Go.Proofs.YtoaomjchaihkaaaDoor
open Go.RowKit
set_option linter.unusedVariables false

/-- what the draw gives -/
def TryOf (w : World) (N m k : Nat) (rs : List Rn) (hs : List Int) (p q : Option Addr) (w' : World) : Prop := (rs.length = m ∧ hs.length = k ∧ (2 ≤ N ∧ N ≤ 6) ∧ m ≤ 8 ∧ k ≤ 6) ∧ Runs w' p rs ∧ Ints w' q hs ∧ Below w.heap.size w w'
theorem own_tailD {w : World} {g n c : Nat} {L : List Int} (h : Own w g 3 1 n c L) : Ints w (some ⟨g, 1, none⟩) (L.drop 1) := by
  refine .inr ⟨g, 1, rfl, h.lt, fun i z hi => ?_⟩
  rw [List.getElem?_drop] at hi
  exact h.cells hi

set_option maxHeartbeats 8000000 in
set_option maxRecDepth 100000 in
theorem drawAdjTry_is (v : Value) (w : World) (h : Hid (Code' w v)) :
    Calls Tryd.prog 19 #[v] w fun e w' => ∃ (N m k : Nat) (rs : List Rn) (hs : List Int) (p : Nat) (q : Addr), (∃ c d, m ≤ c ∧ e = .returned (.tuple #[.int .i64 N, .slice (some ⟨p, 0, none⟩) m c, .slice (some q) k d])) ∧ TryOf w N m k rs hs (some ⟨p, 0, none⟩) (some q) w' := by
  go_enter Tryd.func19, Tryd.ntmps19
  go_wp2_with (go_at_call 44; (with_reducible refine (open_any _ _ h).mono ?_); rintro e wo ⟨rfl, hR_wo, hb_wo, hz_wo⟩; have hs_wo := hb_wo.size; clear hz_wo)
  obtain ⟨R, hRe⟩ : ∃ R, R = w.heap.size := ⟨_, rfl⟩
  rw [← hRe] at hR_wo ⊢
  have hwR : w.heap.size ≤ R := by omega
  clear hRe h
  have hRlt := rdr_lt hR_wo
  go_upto_region 3 with (go_at_call 43; (with_reducible refine (true5_is R _ hR_wo).mono ?_); rintro e wn ⟨N, rs, g, cap, m, rfl, hm, ⟨hN2, hN6⟩, hm8, hri, hR_wn, -⟩; have hs_wn := hri.2.2.size; have hlg := hri.2.1.lt; have hgw := hri.1; have hnc : m ≤ cap := (by obtain ⟨_, _, h, _⟩ := hri.2.1.body; omega); have HI := Lib.hid (And.intro hri (And.intro hR_wn hm)); clear hri hm)
  have hgR : g ≠ R := by omega
  have HE := Lib.hid (Own.empty wn 3 1)
  clear hR_wn
  go_wp2_with fail
  go_loopw [8, 9] (fun v i wr => ∃ (q gh ch : Nat) (L : List Int), q ≤ N ∧ i = .int .i64 q ∧ v = .slice (some ⟨gh, 0, none⟩) q ch ∧ L.length = q ∧ (wo.heap.size ≤ gh ∧ gh ≠ g) ∧ Own wr gh 3 1 q ch L ∧ RunsIn wo wr R g cap rs ∧ Rdr (90 + q) wr R) (fun _ i _ => N - (intOf i).toNat)
  case atStart => exact ⟨0, _, _, [], Nat.zero_le _, rfl, rfl, rfl, ⟨by omega, by omega⟩, HE.out, HI.out.1.alloc _, rdr_alloc HI.out.2.1 _⟩
  case round =>
    have HM := Lib.hid HI.out.2.2
    clear HE HI hlg hs_wn
    obtain ⟨q, gh, ch, L, hq, rfl, rfl, hLq, ⟨hgh, hghg⟩, how, hri, hrd⟩ := hrel
    have hbs := hri.2.2.size
    have hlo := how.lt
    have hlg2 := hri.2.1.lt
    have hghR : gh ≠ R := by omega
    have hqc : q ≤ ch := by obtain ⟨_, _, h, _⟩ := how.body; omega
    have HO := Lib.hid (And.intro how (And.intro hri hLq))
    clear how hri hLq
    by_cases hlt : q < N
    · go_wp2_with (first | (go_at_call 54; (with_reducible refine (pick_any (90 + q) R (41) _ ?_ (by omega) (by omega) (by omega)).mono ?_); (focus ((repeat (first | with_reducible assumption | (with_reducible refine rdr_drewN ?_ _) | (with_reducible refine rdr_drew ?_) | (with_reducible refine rdr_alloc ?_ _) | (with_reducible refine rdr_setCell ?_ (by first | omega | (simp <;> omega) | simp) _) | (with_reducible refine rdr_chain ?_ (by with_reducible assumption)))); done)); rintro e wp ⟨m_wp, hm0_wp, hm1_wp, rfl, hR_wp, hg_wp, hq_wp⟩; have hs_wp := Nat.le_of_eq hq_wp; have ht_wp := Nat.le_of_eq hq_wp.symm; (try simp at hs_wp); (try simp at ht_wp); clear hq_wp) | (at_builtin; refine wp_append _ rfl _ _ 39 rfl 3 _ 1 8 Tryd.underlying39 info_int rfl (by decide) (by decide) _ q ch L rfl ((HO.out.1.grown hg_wp hghR).alloc _) _ _ _ [m_wp - 20] rfl rfl (one_cell _ _ _) (by omega) ?_; intro g' cap' w' hown hgr hloc hsz; have HN := Lib.hid (And.intro hown (And.intro hgr hloc)); clear hown hgr hloc))
      go_roundw
      case rel =>
        obtain ⟨hown, hgr, hloc⟩ := HN.out
        have hri2 := (HO.out.2.1.moved hg_wp hgR).alloc (.cells #[.int .i64 (m_wp - 20)] 3)
        have hg' : wo.heap.size ≤ g' ∧ g' ≠ g := by
          rcases hloc with rfl | rfl
          · exact ⟨hgh, hghg⟩
          · simp; omega
        exact ⟨q + 1, g', cap', L ++ [m_wp - 20], by omega, by go_num, rfl, by simp [HO.out.2.2], hg', hown, ⟨hri2.1, hri2.2.1.grown hgr (by omega), gb_own hri2.2.2 hgr hgh⟩, rdr_mono (rdr_own (rdr_alloc hR_wp _) hgr (by omega)) (by omega)⟩
      case measure => simp [intOf]; omega
    · have e : q = N := by omega
      subst e
      have hrd2 := rdr_mono hrd (show 90 + q ≤ 96 by omega)
      clear hrd
      have hq0 : (0 : Int) < (q : Int) := by omega
      have hRr : R < wo.heap.size := hRlt
      go_upto_region 9 with ((go_at_call 54; (with_reducible refine (pick_any (96) R (24) _ ?_ (by omega) (by omega) (by omega)).mono ?_); (focus ((repeat (first | with_reducible assumption | (with_reducible refine rdr_drewN ?_ _) | (with_reducible refine rdr_drew ?_) | (with_reducible refine rdr_alloc ?_ _) | (with_reducible refine rdr_setCell ?_ (by first | omega | (simp <;> omega) | simp) _) | (with_reducible refine rdr_chain ?_ (by with_reducible assumption)))); done)); rintro e wp ⟨m_wp, hm0_wp, hm1_wp, rfl, hR_wp, hg_wp, hq_wp⟩; have hs_wp := Nat.le_of_eq hq_wp; have ht_wp := Nat.le_of_eq hq_wp.symm; (try simp at hs_wp); (try simp at ht_wp); clear hq_wp))
      have hri3 := HO.out.2.1.moved hg_wp hgR
      have how3 := HO.out.1.grown hg_wp hghR
      have HX := Lib.hid (And.intro hri3 (And.intro how3 HO.out.2.2))
      clear hri3 how3 HO hg_wp hR_wp hrd2
      by_cases hc0 : m_wp = 0
      · subst hc0
        obtain ⟨z0, hz0⟩ : ∃ z, L[0]? = some z := ⟨_, List.getElem?_eq_getElem (by have := HX.out.2.2; omega)⟩
        have y0 := HX.out.2.1.cells hz0
        have f0 := HX.out.2.1.frozen 0
        have hlo3 := HX.out.2.1.lt
        clear hz0
        go_wp2_with fail
        refine bodyPost_ret (v := .tuple #[.int .i64 q, .slice (some ⟨g, 0, none⟩) m cap, .slice (some ⟨gh, 0, none⟩) q ch]) (by simp [results, Tryd.results19, go_sem]) rfl ⟨q, m, q, rs, L.set 0 1000001, g, ⟨gh, 0, none⟩, ⟨cap, ch, hnc, rfl⟩, ⟨HM.out, by simp [HX.out.2.2], ⟨hN2, hN6⟩, hm8, hN6⟩, ?_, ?_, ?_⟩
        · exact (HX.out.1.2.1.setOther (by simpa using hghg.symm) _).runs
        · exact (HX.out.2.1.set 0 1000001 (by have := HX.out.2.2; omega)).ints
        · exact below_gb hb_wo (gb_new HX.out.1.2.2 hgh _) hwR hb_wo.size
      · by_cases hc1 : m_wp = 1
        · subst hc1
          have hch1 : ¬ ch = 1 := by omega
          have hch0 : 1 ≤ ch := by omega
          have hq1 : (1 : Int) ≤ (q : Int) := by omega
          have hqc' : (q : Int) ≤ (ch : Int) := by omega
          go_upto_region 12 with fail
          go_region_with fail
          all_goals go_wp2_with fail
          all_goals (refine bodyPost_ret (v := .tuple #[.int .i64 q, .slice (some ⟨g, 0, none⟩) m cap, .slice (some ⟨gh, 1, none⟩) (q - 1) (ch - 1)]) (by simp [results, Tryd.results19, go_sem]) rfl ⟨q, m, q - 1, rs, L.drop 1, g, ⟨gh, 1, none⟩, ⟨cap, ch - 1, hnc, rfl⟩, ⟨HM.out, by rw [List.length_drop, HX.out.2.2], ⟨hN2, hN6⟩, hm8, by omega⟩, ?_, ?_, ?_⟩)
          all_goals first | exact (HX.out.1.2.1.below (below_drew (Below.refl _ _))).runs | exact own_tailD (HX.out.2.1.below (below_drew (Below.refl _ _))) | exact below_drew (below_gb hb_wo HX.out.1.2.2 hwR hb_wo.size)
        · go_wp2_with fail
          refine bodyPost_ret (v := .tuple #[.int .i64 q, .slice (some ⟨g, 0, none⟩) m cap, .slice (some ⟨gh, 0, none⟩) q ch]) (by simp [results, Tryd.results19, go_sem]) rfl ⟨q, m, q, rs, L, g, ⟨gh, 0, none⟩, ⟨cap, ch, hnc, rfl⟩, ⟨HM.out, HX.out.2.2, ⟨hN2, hN6⟩, hm8, hN6⟩, ?_, ?_, ?_⟩
          · exact HX.out.1.2.1.runs
          · exact HX.out.2.1.ints
          · exact below_gb hb_wo HX.out.1.2.2 hwR hb_wo.size
end Go.Proofs.YtoaomjchaihkaaaDoor
