/-
  What the draw of a star gives: a list of at most twelve points, by the reader and new memory alone.
-/
import Derived.Test.YthecapioagogbaaYdb
namespace Go.Proofs.Ythecapioagogbaa
open Go.RowKit Poly
set_option linter.unusedVariables false

def waysP : List P2 := [(2, 0), (2, 1), (1, 2), (0, 2), (-1, 2), (-2, 1), (-2, 0), (-2, -1), (-1, -2), (0, -2), (1, -2), (2, -1)]
theorem waysP_at {j : Nat} (h : j < 12) : ∃ p : P2, waysP[j]? = some p ∧ -2 ≤ p.1 ∧ p.1 ≤ 2 ∧ -2 ≤ p.2 ∧ p.2 ≤ 2 := by
  have : ∀ j : Fin 12, ∃ p : P2, waysP[j.1]? = some p ∧ -2 ≤ p.1 ∧ p.1 ≤ 2 ∧ -2 ≤ p.2 ∧ p.2 ≤ 2 := by
    intro j
    match j with
    | 0 => exact ⟨_, rfl, by decide, by decide, by decide, by decide⟩
    | 1 => exact ⟨_, rfl, by decide, by decide, by decide, by decide⟩
    | 2 => exact ⟨_, rfl, by decide, by decide, by decide, by decide⟩
    | 3 => exact ⟨_, rfl, by decide, by decide, by decide, by decide⟩
    | 4 => exact ⟨_, rfl, by decide, by decide, by decide, by decide⟩
    | 5 => exact ⟨_, rfl, by decide, by decide, by decide, by decide⟩
    | 6 => exact ⟨_, rfl, by decide, by decide, by decide, by decide⟩
    | 7 => exact ⟨_, rfl, by decide, by decide, by decide, by decide⟩
    | 8 => exact ⟨_, rfl, by decide, by decide, by decide, by decide⟩
    | 9 => exact ⟨_, rfl, by decide, by decide, by decide, by decide⟩
    | 10 => exact ⟨_, rfl, by decide, by decide, by decide, by decide⟩
    | 11 => exact ⟨_, rfl, by decide, by decide, by decide, by decide⟩
  exact this ⟨j, h⟩
theorem scaled {m x : Int} (h0 : 0 ≤ m) (h1 : m < 3) (h2 : -2 ≤ x) (h3 : x ≤ 2) : -6 ≤ (1 + m) * x ∧ (1 + m) * x ≤ 6 := by
  have : m = 0 ∨ m = 1 ∨ m = 2 := by omega
  rcases this with rfl | rfl | rfl <;> omega

set_option maxHeartbeats 8000000 in
theorem star_any (k R : Nat) (w : World) (h : Rdr k w R) (hk : k ≤ 100000) :
    Calls Try.prog 68 #[.pointer (some ⟨R, 0, none⟩)] w (DPs (k + 24) R w) := by
  have hR := rdr_lt h
  go_enter Try.func68, Try.ntmps68
  go_upto_region 3 with fail
  obtain ⟨X, hX⟩ : ∃ X, X = w.heap.size := ⟨_, rfl⟩
  have hXR : X ≠ R := by omega
  rw [← hX]
  refine gen_world (fun W => Own W X 31 2 12 12 (fl waysP) ∧ Own W (X + 1) 31 2 0 0 (fl []) ∧ Rdr k W R ∧ w.grownBy W (some R)) ⟨?_, ?_, rdr_alloc (rdr_alloc h _) _, gb_alloc (gb_alloc (gb_refl _ _) _) _⟩ (fun wo hp => ?_)
  · rw [hX]
    exact Own.alloc (.of (Deep.blk_alloc_new _ _) (Nat.le_refl _) (by unfold maxLen; omega) rfl rfl rfl) _
  · have := Own.empty (w.alloc (.cells #[.int .i64 2, .int .i64 0, .int .i64 2, .int .i64 1, .int .i64 1, .int .i64 2, .int .i64 0, .int .i64 2, .int .i64 (-1), .int .i64 2, .int .i64 (-2), .int .i64 1, .int .i64 (-2), .int .i64 0, .int .i64 (-2), .int .i64 (-1), .int .i64 (-1), .int .i64 (-2), .int .i64 0, .int .i64 (-2), .int .i64 1, .int .i64 (-2), .int .i64 2, .int .i64 (-1)] 31)) 31 2
    simp at this
    rw [hX]
    exact this
  have HS := Lib.hid hp
  have hXw : w.heap.size ≤ X := by omega
  have hRX : R < X := by omega
  clear hp h hX
  go_wp2_with fail
  go_loopw [4, 5] (fun v i wr => ∃ (j g cap : Nat) (L : List P2), j ≤ 12 ∧ i = .int .i64 j ∧ v = .slice (some ⟨g, 0, none⟩) L.length cap ∧ L.length ≤ j ∧ X < g ∧ Own wr X 31 2 12 12 (fl waysP) ∧ Own wr g 31 2 L.length cap (fl L) ∧ Rdr (k + 2 * j) wr R ∧ w.grownBy wr (some R)) (fun _ i _ => 12 - (intOf i).toNat)
  case atStart => exact ⟨0, X + 1, 0, [], Nat.zero_le _, rfl, rfl, Nat.le_refl _, by omega, HS.out.1, HS.out.2.1, HS.out.2.2.1, HS.out.2.2.2⟩
  case round =>
    clear HS
    obtain ⟨j, g, cap, L, hj, rfl, rfl, hL, hg, hx, how, hrd, hgb⟩ := hrel
    have hlg := how.lt
    have hlx := hx.lt
    have hgR : g ≠ R := by omega
    have hsz := hgb.size
    have HO := Lib.hid (And.intro hx (And.intro how (And.intro hrd hgb)))
    by_cases hlt : j < 12
    · obtain ⟨p, hp, b0, b1, b2, b3⟩ := waysP_at hlt
      obtain ⟨z0, z1⟩ := fl_at hp
      have x0 := hx.cells z0
      have x1 := hx.cells z1
      clear hx how hgb z0 z1 hp
      go_upto_region 7 with ((go_at_call 44; (with_reducible refine (pick_any (k + 2 * j) R (3) _ ?_ (by omega) (by omega) (by omega)).mono ?_); (focus ((repeat (first | with_reducible assumption | (with_reducible refine rdr_drewN ?_ _) | (with_reducible refine rdr_drew ?_) | (with_reducible refine rdr_alloc ?_ _) | (with_reducible refine rdr_setCell ?_ (by first | omega | (simp <;> omega) | simp) _) | (with_reducible refine rdr_chain ?_ (by with_reducible assumption)))); done)); rintro e wb ⟨m_wb, hm0_wb, hm1_wb, rfl, hR_wb, hg_wb, hq_wb⟩; have hs_wb := Nat.le_of_eq hq_wb; have ht_wb := Nat.le_of_eq hq_wb.symm; (try simp at hs_wb); (try simp at ht_wb); clear hq_wb); obtain ⟨hcn, hfn⟩ := gcell hg_wb; have y0 := (hcn X _ hlx hXR).trans x0; have y1 := (hcn X _ hlx hXR).trans x1)
      · go_upto_region 8 with ((go_at_call 44; (with_reducible refine (pick_any (k + 2 * j) R (3) _ ?_ (by omega) (by omega) (by omega)).mono ?_); (focus ((repeat (first | with_reducible assumption | (with_reducible refine rdr_drewN ?_ _) | (with_reducible refine rdr_drew ?_) | (with_reducible refine rdr_alloc ?_ _) | (with_reducible refine rdr_setCell ?_ (by first | omega | (simp <;> omega) | simp) _) | (with_reducible refine rdr_chain ?_ (by with_reducible assumption)))); done)); rintro e wc ⟨m_wc, hm0_wc, hm1_wc, rfl, hR_wc, hg_wc, hq_wc⟩; have hs_wc := Nat.le_of_eq hq_wc; have ht_wc := Nat.le_of_eq hq_wc.symm; (try simp at hs_wc); (try simp at ht_wc); clear hq_wc); obtain ⟨hcn, hfn⟩ := gcell hg_wc; have y0 := (hcn X _ hlx hXR).trans x0; have y1 := (hcn X _ hlx hXR).trans x1)
        have HC : Hid (Own wc g 31 2 L.length cap (fl L) ∧ Own wc X 31 2 12 12 (fl waysP) ∧ w.grownBy wc (some R) ∧ Rdr (k + 2 * (j + 1)) wc R) := Lib.hid ⟨HO.out.2.1.grown hg_wc hgR, HO.out.1.grown hg_wc hXR, gb_trans HO.out.2.2.2 hg_wc, rdr_mono hR_wc (by omega)⟩
        have hsc0 := scaled hm0_wc hm1_wc b0 b1
        have hsc1 := scaled hm0_wc hm1_wc b2 b3
        have hrc : R < wc.heap.size := by omega
        have hgc : g < wc.heap.size := by omega
        have hXc : X < wc.heap.size := by omega
        go_region_held3 (fun W => W.cell? ⟨X, j * 2, none⟩ = some (.int .i64 p.1) ∧ W.cell? ⟨X, j * 2 + 1, none⟩ = some (.int .i64 p.2)) (first | (go_keep; done) | (rw [hgr.cell_far _ (by simp; omega) (by simp; omega), hgr.cell_far _ (by simp; omega) (by simp; omega)]; exact ⟨cell_adD _ y0, cell_adD _ y1⟩))
          ((refine step_app _ (by rfl) _ _ _ (by rfl) 31 _ 2 16 Try.underlying23 info_point rfl (by decide) (by decide) g L.length cap (fl L) (by rfl) (HC.out.1.alloc _) ⟨wc.heap.size, 0, none⟩ 1 1 [IntKind.i64.wrap ((1 + m_wc) * p.1), IntKind.i64.wrap ((1 + m_wc) * p.2)] (by rfl) rfl (two_cellsD _ _ _ _) (by decide) (by omega) ?_; intro g' cap' w' hown hgr hloc hlt1))
        have hs1 := hgr.size
        have hgl : w.heap.size ≤ g' ∧ X < g' := by
          rcases hloc with e | e
          · omega
          · simp at e
            omega
        have HN : Hid (Own w' g' 31 2 (L ++ [(IntKind.i64.wrap ((1 + m_wc) * p.1), IntKind.i64.wrap ((1 + m_wc) * p.2))]).length cap' (fl (L ++ [(IntKind.i64.wrap ((1 + m_wc) * p.1), IntKind.i64.wrap ((1 + m_wc) * p.2))])) ∧ Own w' X 31 2 12 12 (fl waysP) ∧ Rdr (k + 2 * (j + 1)) w' R ∧ w.grownBy w' (some R)) :=
          Lib.hid ⟨by rw [fl_append, List.length_append]; exact hown, Own.grown (g' := g) (own_drD (HC.out.2.1.alloc _)) hgr (by omega), rdr_own (rdr_drew (rdr_alloc HC.out.2.2.2 _)) hgr (by omega), gb_own (gb_drew (gb_alloc HC.out.2.2.1 _)) hgr (by omega)⟩
        clear hown hgr hloc
        go_wp2_with fail
        go_roundw
        case rel => exact ⟨j + 1, g', cap', _, by omega, by go_num, by simp, by simp; omega, hgl.2, HN.out.2.1, HN.out.1, HN.out.2.2.1, HN.out.2.2.2⟩
        case measure => simp [intOf]; omega
      · go_upto_region 8 with ((go_at_call 44; (with_reducible refine (pick_any (k + 2 * j + 1) R (3) _ ?_ (by omega) (by omega) (by omega)).mono ?_); (focus ((repeat (first | with_reducible assumption | (with_reducible refine rdr_drewN ?_ _) | (with_reducible refine rdr_drew ?_) | (with_reducible refine rdr_alloc ?_ _) | (with_reducible refine rdr_setCell ?_ (by first | omega | (simp <;> omega) | simp) _) | (with_reducible refine rdr_chain ?_ (by with_reducible assumption)))); done)); rintro e wc ⟨m_wc, hm0_wc, hm1_wc, rfl, hR_wc, hg_wc, hq_wc⟩; have hs_wc := Nat.le_of_eq hq_wc; have ht_wc := Nat.le_of_eq hq_wc.symm; (try simp at hs_wc); (try simp at ht_wc); clear hq_wc); obtain ⟨hcn', hfn'⟩ := gcell hg_wc; have y0 := (hcn' X _ (by omega) hXR).trans y0; have y1 := (hcn' X _ (by omega) hXR).trans y1)
        have HC : Hid (Own wc g 31 2 L.length cap (fl L) ∧ Own wc X 31 2 12 12 (fl waysP) ∧ w.grownBy wc (some R) ∧ Rdr (k + 2 * (j + 1)) wc R) := Lib.hid ⟨(HO.out.2.1.grown hg_wb hgR).grown hg_wc hgR, (HO.out.1.grown hg_wb hXR).grown hg_wc hXR, gb_trans (gb_trans HO.out.2.2.2 hg_wb) hg_wc, rdr_mono hR_wc (by omega)⟩
        have hsc0 := scaled hm0_wc hm1_wc b0 b1
        have hsc1 := scaled hm0_wc hm1_wc b2 b3
        have hrc : R < wc.heap.size := by omega
        have hgc : g < wc.heap.size := by omega
        have hXc : X < wc.heap.size := by omega
        go_region_held3 (fun W => W.cell? ⟨X, j * 2, none⟩ = some (.int .i64 p.1) ∧ W.cell? ⟨X, j * 2 + 1, none⟩ = some (.int .i64 p.2)) (first | (go_keep; done) | (rw [hgr.cell_far _ (by simp; omega) (by simp; omega), hgr.cell_far _ (by simp; omega) (by simp; omega)]; exact ⟨cell_adD _ y0, cell_adD _ y1⟩))
          ((refine step_app _ (by rfl) _ _ _ (by rfl) 31 _ 2 16 Try.underlying23 info_point rfl (by decide) (by decide) g L.length cap (fl L) (by rfl) (HC.out.1.alloc _) ⟨wc.heap.size, 0, none⟩ 1 1 [IntKind.i64.wrap ((1 + m_wc) * p.1), IntKind.i64.wrap ((1 + m_wc) * p.2)] (by rfl) rfl (two_cellsD _ _ _ _) (by decide) (by omega) ?_; intro g' cap' w' hown hgr hloc hlt1))
        have hs1 := hgr.size
        have hgl : w.heap.size ≤ g' ∧ X < g' := by
          rcases hloc with e | e
          · omega
          · simp at e
            omega
        have HN : Hid (Own w' g' 31 2 (L ++ [(IntKind.i64.wrap ((1 + m_wc) * p.1), IntKind.i64.wrap ((1 + m_wc) * p.2))]).length cap' (fl (L ++ [(IntKind.i64.wrap ((1 + m_wc) * p.1), IntKind.i64.wrap ((1 + m_wc) * p.2))])) ∧ Own w' X 31 2 12 12 (fl waysP) ∧ Rdr (k + 2 * (j + 1)) w' R ∧ w.grownBy w' (some R)) :=
          Lib.hid ⟨by rw [fl_append, List.length_append]; exact hown, Own.grown (g' := g) (own_drD (HC.out.2.1.alloc _)) hgr (by omega), rdr_own (rdr_drew (rdr_alloc HC.out.2.2.2 _)) hgr (by omega), gb_own (gb_drew (gb_alloc HC.out.2.2.1 _)) hgr (by omega)⟩
        clear hown hgr hloc
        go_wp2_with fail
        go_roundw
        case rel => exact ⟨j + 1, g', cap', _, by omega, by go_num, by simp, by simp; omega, hgl.2, HN.out.2.1, HN.out.1, HN.out.2.2.1, HN.out.2.2.2⟩
        case measure => simp [intOf]; omega
      · go_roundw
        case rel => exact ⟨j + 1, g, cap, L, by omega, by go_num, rfl, by omega, hg, HO.out.1.grown hg_wb hXR, HO.out.2.1.grown hg_wb hgR, rdr_mono hR_wb (by omega), gb_trans HO.out.2.2.2 hg_wb⟩
        case measure => simp [intOf]; omega
    · have e : j = 12 := by omega
      subst e
      go_wp2_with fail
      go_ret
      exact ⟨L, _, cap, rfl, by obtain ⟨_, _, h1, _⟩ := HO.out.2.1.body; exact h1, hL, HO.out.2.1.pts, Or.inr ⟨_, _, rfl, by omega⟩, HO.out.2.2.1, HO.out.2.2.2⟩
end Go.Proofs.Ythecapioagogbaa
