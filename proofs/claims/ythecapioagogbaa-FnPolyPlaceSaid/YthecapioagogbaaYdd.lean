/-
  What the draw of a polygon gives: a list of at most twelve points, by the reader and new memory alone.
-/
import Derived.Test.YthecapioagogbaaYdc
import Derived.Test.YthecapioagogbaaYbq
namespace Go.Proofs.Ythecapioagogbaa
open Go.RowKit Poly
set_option linter.unusedVariables false

theorem dps_keep {R : Nat} {w0 w w' : World} {p : Option Addr} {L : List P2} (hne : L = [] ∨ ∃ B o, p = some ⟨B, o, none⟩ ∧ w0.heap.size ≤ B) (hR : R < w0.heap.size) (h : Ints w p (fl L)) (hg : w.grownBy w' (some R)) : Ints w' p (fl L) := by
  rcases hne with rfl | ⟨B, o, rfl, hB⟩
  · exact .inl rfl
  · exact h.grown hg (fun o e => by injection e with e1; injection e1 with e2; omega)
theorem dps_le {w0 w : World} {p : Option Addr} {L : List P2} (hne : L = [] ∨ ∃ B o, p = some ⟨B, o, none⟩ ∧ w0.heap.size ≤ B) (h : w.heap.size ≤ w0.heap.size) : L = [] ∨ ∃ B o, p = some ⟨B, o, none⟩ ∧ w.heap.size ≤ B :=
  hne.imp id (fun ⟨B, o, e, h'⟩ => ⟨B, o, e, Nat.le_trans h h'⟩)
theorem dps_mono {k k' R : Nat} {w w' : World} {e : Ending} (h : DPs k R w e w') (hk : k ≤ k') : DPs k' R w e w' := by
  obtain ⟨L, p, c, h1, h2, h3, h4, h5, h6, h7⟩ := h
  exact ⟨L, p, c, h1, h2, h3, h4, h5, rdr_mono h6 hk, h7⟩

set_option maxHeartbeats 8000000 in
theorem poly_any (k R : Nat) (w : World) (h : Rdr k w R) (hk : k ≤ 50000) :
    Calls Try.prog 43 #[.pointer (some ⟨R, 0, none⟩)] w (DPs (k + 32) R w) := by
  have hR := rdr_lt h
  go_enter Try.func43, Try.ntmps43
  go_upto_region 3 with (first | (go_at_call 44; (with_reducible refine (pick_any (k) R (8) _ ?_ (by omega) (by omega) (by omega)).mono ?_); (focus ((repeat (first | with_reducible assumption | (with_reducible refine rdr_drewN ?_ _) | (with_reducible refine rdr_drew ?_) | (with_reducible refine rdr_alloc ?_ _) | (with_reducible refine rdr_setCell ?_ (by first | omega | (simp <;> omega) | simp) _) | (with_reducible refine rdr_chain ?_ (by with_reducible assumption)))); done)); rintro e wa ⟨m_wa, hm0_wa, hm1_wa, rfl, hR_wa, hg_wa, hq_wa⟩; have hs_wa := Nat.le_of_eq hq_wa; have ht_wa := Nat.le_of_eq hq_wa.symm; (try simp at hs_wa); (try simp at ht_wa); clear hq_wa) | (go_at_call 62; (with_reducible refine (box_any (k + 1) R _ ?_ (by omega)).mono ?_); (focus (with_reducible assumption)); rintro e wb ⟨L, p, c, rfl, hc, hl, hi, hne, hrd, hgb⟩) | (go_at_call 68; (with_reducible refine (star_any (k + 1) R _ ?_ (by omega)).mono ?_); (focus (with_reducible assumption)); rintro e wb ⟨L, p, c, rfl, hc, hl, hi, hne, hrd, hgb⟩) | (go_at_call 44; (with_reducible refine (pick_any (k + 1 + 24) R (5) _ ?_ (by omega) (by omega) (by omega)).mono ?_); (focus ((repeat (first | with_reducible assumption | (with_reducible refine rdr_drewN ?_ _) | (with_reducible refine rdr_drew ?_) | (with_reducible refine rdr_alloc ?_ _) | (with_reducible refine rdr_setCell ?_ (by first | omega | (simp <;> omega) | simp) _) | (with_reducible refine rdr_chain ?_ (by with_reducible assumption)))); done)); rintro e wc ⟨m_wc, hm0_wc, hm1_wc, rfl, hR_wc, hg_wc, hq_wc⟩; have hs_wc := Nat.le_of_eq hq_wc; have ht_wc := Nat.le_of_eq hq_wc.symm; (try simp at hs_wc); (try simp at ht_wc); clear hq_wc))
  · go_wp2_with ((go_at_call 44; (with_reducible refine (pick_any (k + 1) R (6) _ ?_ (by omega) (by omega) (by omega)).mono ?_); (focus ((repeat (first | with_reducible assumption | (with_reducible refine rdr_drewN ?_ _) | (with_reducible refine rdr_drew ?_) | (with_reducible refine rdr_alloc ?_ _) | (with_reducible refine rdr_setCell ?_ (by first | omega | (simp <;> omega) | simp) _) | (with_reducible refine rdr_chain ?_ (by with_reducible assumption)))); done)); rintro e wb ⟨m_wb, hm0_wb, hm1_wb, rfl, hR_wb, hg_wb, hq_wb⟩; have hs_wb := Nat.le_of_eq hq_wb; have ht_wb := Nat.le_of_eq hq_wb.symm; (try simp at hs_wb); (try simp at ht_wb); clear hq_wb))
    obtain ⟨M, hM⟩ : ∃ M : Nat, m_wb = (M : Int) := ⟨m_wb.toNat, by omega⟩
    subst hM
    have hM5 : M ≤ 5 := by omega
    have HR := Lib.hid (And.intro hR_wb (And.intro (gb_trans (gb_alloc hg_wa _) hg_wb) ((Own.empty wa 31 2).grown hg_wb (by omega))))
    have hRa : R < wa.heap.size := by omega
    clear hR_wb hg_wb hR_wa hg_wa h hm0_wb hm1_wb
    go_loopw [3, 5] (fun v i wr => ∃ (q g cap : Nat) (L : List P2), q ≤ M ∧ i = .int .i64 q ∧ v = .slice (some ⟨g, 0, none⟩) L.length cap ∧ L.length ≤ q ∧ R < g ∧ w.heap.size ≤ g ∧ Own wr g 31 2 L.length cap (fl L) ∧ Rdr (k + 2 + 5 * q) wr R ∧ w.grownBy wr (some R)) (fun _ i _ => M - (intOf i).toNat)
    case atStart => exact ⟨0, wa.heap.size, 0, [], Nat.zero_le _, rfl, rfl, Nat.le_refl _, by omega, by omega, HR.out.2.2, rdr_mono HR.out.1 (by omega), HR.out.2.1⟩
    case round =>
      clear HR
      obtain ⟨q, g, cap, L, hq, rfl, rfl, hL, hRg, hgw, how, hrd, hgb⟩ := hrel
      have hlg := how.lt
      have hsz := hgb.size
      have HO := Lib.hid (And.intro how hgb)
      have hgR : g ≠ R := by omega
      clear how hgb
      by_cases hlt : q < M
      · go_wp2_with (first | (go_at_call 59; (with_reducible refine (dpt_any (k + 2 + 5 * q) R _ hrd (by omega)).mono ?_); rintro e wc ⟨a, b, a0, a1, b0, b1, rfl, hrc, hgc⟩; have hsc := hgc.size) | (at_builtin; refine wp_append _ rfl _ _ 23 rfl 31 _ 2 16 Try.underlying23 info_point rfl (by decide) (by decide) g L.length cap (fl L) rfl ((HO.out.1.grown hgc hgR).alloc _) _ 1 1 [a, b] rfl rfl (two_cellsD _ _ _ _) (by omega) ?_; intro g' cap' w' hown hgr hloc hsz'; have HN := Lib.hid (And.intro hown (And.intro hgr hloc)); clear hown hgr hloc hsz'))
        go_roundw
        case rel =>
          have hx : g' = g ∨ wc.heap.size ≤ g' := HN.out.2.2.imp id (fun h => by simp at h; omega)
          exact ⟨q + 1, g', cap', L ++ [(a, b)], by omega, by go_num, by simp, by simp; omega, by omega, by omega, by rw [fl_append, List.length_append]; exact HN.out.1, rdr_mono (rdr_own (rdr_alloc hrc _) HN.out.2.1 hRg) (by omega), gb_own (gb_alloc (gb_trans HO.out.2 hgc) _) HN.out.2.1 (by omega)⟩
        case measure => simp [intOf]; omega
      · have e : q = M := by omega
        subst e
        go_wp2_with fail
        go_ret
        exact ⟨L, _, cap, rfl, by obtain ⟨_, _, h1, _⟩ := HO.out.1.body; exact h1, by omega, HO.out.1.pts, Or.inr ⟨_, _, rfl, by omega⟩, rdr_mono hrd (by omega), HO.out.2⟩
  · go_ret
    exact ⟨L, p, c, rfl, hc, hl, hi, dps_le hne (by omega), rdr_mono hrd (by omega), gb_trans hg_wa hgb⟩
  · go_ret
    exact ⟨L, p, c, rfl, hc, hl, hi, dps_le hne (by omega), rdr_mono hrd (by omega), gb_trans hg_wa hgb⟩
  · go_ret
    exact ⟨L, p, c, rfl, hc, hl, hi, dps_le hne (by omega), rdr_mono hrd (by omega), gb_trans hg_wa hgb⟩
  · have hRc := rdr_lt hR_wc
    have hsb := hgb.size
    have hiL : Ints wc p (fl L) := dps_keep hne (by omega) hi hg_wc
    have HH := Lib.hid (gb_trans (gb_trans hg_wa hgb) hg_wc)
    cases hok : okP L
    · go_wp2_with (go_at_call 39; (with_reducible refine (sPolyBack_no hiL (by omega) hok).mono ?_); rintro e wd ⟨g, rfl, hg, hb⟩)
      go_ret
      exact ⟨[], _, 0, rfl, Nat.le_refl _, by simp, .inl rfl, .inl rfl, rdr_mono (rdr_chain hR_wc hb) (by omega), gb_below HH.out hb⟩
    · go_wp2_with (go_at_call 39; (with_reducible refine (sPolyBack_yes hiL (by omega) hok).mono ?_); rintro e wd ⟨g, cap, rfl, hg, ho, hb⟩)
      go_ret
      exact ⟨backL L, _, cap, by rw [back_len]; rfl, by rw [back_len]; obtain ⟨_, _, h1, _⟩ := ho.body; exact h1, by rw [back_len]; exact hl, ho.pts, Or.inr ⟨_, _, rfl, by omega⟩, rdr_mono (rdr_chain hR_wc hb) (by omega), gb_below HH.out hb⟩
  · go_ret
    exact ⟨L, p, c, rfl, hc, hl, dps_keep hne (by omega) hi hg_wc, dps_le hne (by omega), rdr_mono hR_wc (by omega), gb_trans (gb_trans hg_wa hgb) hg_wc⟩
end Go.Proofs.Ythecapioagogbaa
