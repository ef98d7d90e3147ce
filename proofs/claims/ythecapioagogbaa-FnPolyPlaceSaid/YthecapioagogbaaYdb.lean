/-
  What the draw of a box gives: a list of four or five points, by the reader and new memory alone.
-/
import Derived.Test.YthecapioagogbaaYda
namespace Go.Proofs.Ythecapioagogbaa
open Go.RowKit Poly
set_option linter.unusedVariables false

/-- a draw of a list of points: at most twelve of them -/
def DPs (k R : Nat) (w : World) (e : Ending) (w' : World) : Prop :=
  ∃ (L : List P2) (p : Option Addr) (c : Nat), e = .returned (.slice p L.length c) ∧ L.length ≤ c ∧ L.length ≤ 12 ∧ Ints w' p (fl L) ∧ (L = [] ∨ ∃ B o, p = some ⟨B, o, none⟩ ∧ w.heap.size ≤ B) ∧ Rdr k w' R ∧ w.grownBy w' (some R)

set_option maxHeartbeats 8000000 in
theorem box_any (k R : Nat) (w : World) (h : Rdr k w R) (hk : k ≤ 100000) :
    Calls Try.prog 62 #[.pointer (some ⟨R, 0, none⟩)] w (DPs (k + 6) R w) := by
  have hR := rdr_lt h
  go_enter Try.func62, Try.ntmps62
  go_upto_region 5 with (first | (go_at_call 44; (with_reducible refine (pick_any (k) R (5) _ ?_ (by omega) (by omega) (by omega)).mono ?_); (focus ((repeat (first | with_reducible assumption | (with_reducible refine rdr_drewN ?_ _) | (with_reducible refine rdr_drew ?_) | (with_reducible refine rdr_alloc ?_ _) | (with_reducible refine rdr_setCell ?_ (by first | omega | (simp <;> omega) | simp) _) | (with_reducible refine rdr_chain ?_ (by with_reducible assumption)))); done)); rintro e wa ⟨m_wa, hm0_wa, hm1_wa, rfl, hR_wa, hg_wa, hq_wa⟩; have hs_wa := Nat.le_of_eq hq_wa; have ht_wa := Nat.le_of_eq hq_wa.symm; (try simp at hs_wa); (try simp at ht_wa); clear hq_wa) | (go_at_call 44; (with_reducible refine (pick_any (k + 1) R (5) _ ?_ (by omega) (by omega) (by omega)).mono ?_); (focus ((repeat (first | with_reducible assumption | (with_reducible refine rdr_drewN ?_ _) | (with_reducible refine rdr_drew ?_) | (with_reducible refine rdr_alloc ?_ _) | (with_reducible refine rdr_setCell ?_ (by first | omega | (simp <;> omega) | simp) _) | (with_reducible refine rdr_chain ?_ (by with_reducible assumption)))); done)); rintro e wb ⟨m_wb, hm0_wb, hm1_wb, rfl, hR_wb, hg_wb, hq_wb⟩; have hs_wb := Nat.le_of_eq hq_wb; have ht_wb := Nat.le_of_eq hq_wb.symm; (try simp at hs_wb); (try simp at ht_wb); clear hq_wb) | (go_at_call 44; (with_reducible refine (pick_any (k + 1 + 1) R (5) _ ?_ (by omega) (by omega) (by omega)).mono ?_); (focus ((repeat (first | with_reducible assumption | (with_reducible refine rdr_drewN ?_ _) | (with_reducible refine rdr_drew ?_) | (with_reducible refine rdr_alloc ?_ _) | (with_reducible refine rdr_setCell ?_ (by first | omega | (simp <;> omega) | simp) _) | (with_reducible refine rdr_chain ?_ (by with_reducible assumption)))); done)); rintro e wc ⟨m_wc, hm0_wc, hm1_wc, rfl, hR_wc, hg_wc, hq_wc⟩; have hs_wc := Nat.le_of_eq hq_wc; have ht_wc := Nat.le_of_eq hq_wc.symm; (try simp at hs_wc); (try simp at ht_wc); clear hq_wc) | (go_at_call 44; (with_reducible refine (pick_any (k + 1 + 1 + 1) R (5) _ ?_ (by omega) (by omega) (by omega)).mono ?_); (focus ((repeat (first | with_reducible assumption | (with_reducible refine rdr_drewN ?_ _) | (with_reducible refine rdr_drew ?_) | (with_reducible refine rdr_alloc ?_ _) | (with_reducible refine rdr_setCell ?_ (by first | omega | (simp <;> omega) | simp) _) | (with_reducible refine rdr_chain ?_ (by with_reducible assumption)))); done)); rintro e wd ⟨m_wd, hm0_wd, hm1_wd, rfl, hR_wd, hg_wd, hq_wd⟩; have hs_wd := Nat.le_of_eq hq_wd; have ht_wd := Nat.le_of_eq hq_wd.symm; (try simp at hs_wd); (try simp at ht_wd); clear hq_wd))
  have HG := Lib.hid (gb_trans (gb_trans (gb_trans hg_wa hg_wb) hg_wc) hg_wd)
  have hle : w.heap.size = wd.heap.size := by omega
  clear hR_wa hR_wb hR_wc hg_wa hg_wb hg_wc hg_wd hs_wa ht_wa hs_wb ht_wb hs_wc ht_wc hs_wd ht_wd
  go_upto_region 6 with fail
  have hO : Own (wd.alloc (.cells #[.int .i64 (m_wa - 2), .int .i64 (m_wb - 2), .int .i64 (m_wa - 2 + (1 + m_wc)), .int .i64 (m_wb - 2), .int .i64 (m_wa - 2 + (1 + m_wc)), .int .i64 (m_wb - 2 + (1 + m_wd)), .int .i64 (m_wa - 2), .int .i64 (m_wb - 2 + (1 + m_wd))] 31)) wd.heap.size 31 2 4 4 (fl [(m_wa - 2, m_wb - 2), (m_wa - 2 + (1 + m_wc), m_wb - 2), (m_wa - 2 + (1 + m_wc), m_wb - 2 + (1 + m_wd)), (m_wa - 2, m_wb - 2 + (1 + m_wd))]) :=
    .of (Deep.blk_alloc_new _ _) (Nat.le_refl _) (by unfold maxLen; omega) rfl rfl rfl
  obtain ⟨r0, L, hL⟩ : ∃ (r0 : P2) (L : List P2), r0 :: L = [(m_wa - 2, m_wb - 2), (m_wa - 2 + (1 + m_wc), m_wb - 2), (m_wa - 2 + (1 + m_wc), m_wb - 2 + (1 + m_wd)), (m_wa - 2, m_wb - 2 + (1 + m_wd))] := ⟨_, _, rfl⟩
  have hLl : L.length = 3 := by
    have := congrArg List.length hL
    simpa using this
  rw [← hL] at hO
  obtain ⟨g, hg⟩ : ∃ g, g = wd.heap.size := ⟨_, rfl⟩
  rw [← hg] at hO ⊢
  have hgR : g ≠ R := by omega
  have hRg : R < g := by omega
  have hgw : w.heap.size ≤ g := by omega
  refine gen_world (fun W => Own W g 31 2 4 4 (fl (r0 :: L)) ∧ Rdr (k + 4) W R ∧ w.grownBy W (some R)) ⟨hO, rdr_alloc hR_wd _, gb_alloc HG.out _⟩ (fun we hp => ?_)
  have HP := Lib.hid hp
  have hlt := hp.1.lt
  have hwe := hp.2.2.size
  have hR_we : Rdr (k + 4) we R := hp.2.1
  have c0 : we.cell? ⟨g, 0, none⟩ = some (.int .i64 r0.1) := hp.1.cells (i := 0) rfl
  have c1 : we.cell? ⟨g, 1, none⟩ = some (.int .i64 r0.2) := hp.1.cells (i := 1) rfl
  clear hp hO HG hR_wd hL hle hg
  by_cases h1 : (1 : Int) < 1 + m_wc
  · go_upto_region 7 with ((go_at_call 44; (with_reducible refine (pick_any (k + 4) R (2) _ ?_ (by omega) (by omega) (by omega)).mono ?_); (focus ((repeat (first | with_reducible assumption | (with_reducible refine rdr_drewN ?_ _) | (with_reducible refine rdr_drew ?_) | (with_reducible refine rdr_alloc ?_ _) | (with_reducible refine rdr_setCell ?_ (by first | omega | (simp <;> omega) | simp) _) | (with_reducible refine rdr_chain ?_ (by with_reducible assumption)))); done)); rintro e wf ⟨m_wf, hm0_wf, hm1_wf, rfl, hR_wf, hg_wf, hq_wf⟩; have hs_wf := Nat.le_of_eq hq_wf; have ht_wf := Nat.le_of_eq hq_wf.symm; (try simp at hs_wf); (try simp at ht_wf); clear hq_wf); have HF := Lib.hid (And.intro (HP.out.1.grown hg_wf hgR) (gb_trans HP.out.2.2 hg_wf)); obtain ⟨hcn, hfn⟩ := gcell hg_wf; have c0f := (hcn g 0 hlt hgR).trans c0; have c1f := (hcn g 1 hlt hgR).trans c1; have hltf : g < wf.heap.size := (by omega))
    · go_upto_region 8 with (at_builtin; refine wp_append _ rfl _ _ 23 rfl 31 _ 2 16 Try.underlying23 info_point rfl (by decide) (by decide) wf.heap.size 2 2 (fl [(m_wa - 2, m_wb - 2), (m_wa - 2 + 1, m_wb - 2)]) rfl (Own.of (Deep.blk_alloc_new _ _) (Nat.le_refl _) (by unfold maxLen; omega) rfl rfl rfl) ⟨g, 2, none⟩ 3 3 (fl L) rfl (by rw [fl_len, hLl]) (fun j z hj => by rw [Go.WideShapes.add_plain]; exact ((HF.out.1.alloc _).cells (i := 2 + j) (by rw [Nat.add_comm]; exact hj))) (by omega) ?_; intro g5 c5 w5 hO5 hg5 hl5 hlt5')
      have hlt5 := hO5.lt
      have HN5 : Hid (Own w5 g5 31 2 5 c5 (fl ((m_wa - 2, m_wb - 2) :: ((m_wa - 2 + 1, m_wb - 2) :: L))) ∧ Rdr (k + 5) w5 R ∧ w.grownBy w5 (some R)) := Lib.hid ⟨hO5, rdr_own (rdr_alloc hR_wf _) hg5 (by omega), gb_own (gb_alloc HF.out.2 _) hg5 (by omega)⟩
      have hg5R : g5 ≠ R := by rcases hl5 with rfl | rfl <;> (first | omega | (simp; omega))
      have hRg5 : R < g5 := by rcases hl5 with rfl | rfl <;> (first | omega | (simp; omega))
      have hgw5 : w.heap.size ≤ g5 := by rcases hl5 with rfl | rfl <;> (first | omega | (simp; omega))
      obtain ⟨p0, hp0⟩ : ∃ p0 : P2, p0 = (m_wa - 2, m_wb - 2) := ⟨_, rfl⟩
      obtain ⟨L5, hL5⟩ : ∃ L5 : List P2, L5 = (m_wa - 2 + 1, m_wb - 2) :: L := ⟨_, rfl⟩
      rw [← hp0, ← hL5] at HN5
      have hL5l : L5.length = 4 := by rw [hL5]; simp [hLl]
      have d0 : w5.cell? ⟨g5, 0, none⟩ = some (.int .i64 p0.1) := HN5.out.1.cells (i := 0) rfl
      have d1 : w5.cell? ⟨g5, 1, none⟩ = some (.int .i64 p0.2) := HN5.out.1.cells (i := 1) rfl
      have hR_w5 : Rdr (k + 5) w5 R := HN5.out.2.1
      have hc5 : 5 ≤ c5 := by obtain ⟨_, _, h1, _⟩ := HN5.out.1.body; exact h1
      clear hO5 hg5 hl5 hp0 hL5
      obtain ⟨q5, rfl⟩ : ∃ q, c5 = q + 5 := ⟨c5 - 5, by omega⟩
      go_wp2_with ((go_at_call 44; (with_reducible refine (pick_any (k + 5) R (3) _ ?_ (by omega) (by omega) (by omega)).mono ?_); (focus ((repeat (first | with_reducible assumption | (with_reducible refine rdr_drewN ?_ _) | (with_reducible refine rdr_drew ?_) | (with_reducible refine rdr_alloc ?_ _) | (with_reducible refine rdr_setCell ?_ (by first | omega | (simp <;> omega) | simp) _) | (with_reducible refine rdr_chain ?_ (by with_reducible assumption)))); done)); rintro e wz ⟨m_wz, hm0_wz, hm1_wz, rfl, hR_wz, hg_wz, hq_wz⟩; have hs_wz := Nat.le_of_eq hq_wz; have ht_wz := Nat.le_of_eq hq_wz.symm; (try simp at hs_wz); (try simp at ht_wz); clear hq_wz); obtain ⟨hcn, hfn⟩ := gcell hg_wz; have e0 := (hcn g5 0 hlt5 hg5R).trans d0; have e1 := (hcn g5 1 hlt5 hg5R).trans d1)
      · go_region_law ((refine step_at _ (by rfl) _ _ _ (by rfl) 31 _ 2 16 Try.underlying23 info_point rfl (by decide) (by decide) g5 5 (q5 + 5) 1 (fl (p0 :: L5)) 4 (q5 + 4) 2 (by omega) (by omega) (by omega) (((HN5.out.1).grown hg_wz hg5R).alloc _) (by rfl) ⟨wz.heap.size, 0, none⟩ 1 1 [p0.1, p0.2] (by rfl) rfl (two_cellsD _ _ _ _) (by omega) ?_; intro g' o' cap' w' hle' hI hgr hloc))
        have HN := Lib.hid (And.intro hle' (And.intro hI (And.intro hgr hloc)))
        clear hle' hI hgr hloc
        go_wp2_with fail
        refine bodyPost_ret (v := .slice (some ⟨g', o', none⟩) 5 cap') (by simp [results, Try.results62, go_sem]) rfl ?_
        refine ⟨L5 ++ [p0], some ⟨g', o', none⟩, cap', by simp [hL5l], by have := HN.out.1; simp [hL5l]; omega, by simp [hL5l], by rw [fl_append]; exact HN.out.2.1, Or.inr ⟨g', o', rfl, by have hx : g' = g5 ∨ wz.heap.size ≤ g' := HN.out.2.2.2.imp id (fun h => by simp at h; omega); omega⟩, rdr_mono (rdr_own (rdr_drew (rdr_alloc hR_wz _)) HN.out.2.2.1 (by omega)) (by omega), gb_own (gb_drew (gb_alloc (gb_trans (HN5.out.2.2) hg_wz) _)) HN.out.2.2.1 (by omega)⟩
      · go_ret
        exact ⟨p0 :: L5, _, (q5 + 5), by simp [hL5l], by first | (simp [hL5l]; done) | (simp [hL5l]; omega), by simp [hL5l], ((HN5.out.1).grown hg_wz hg5R).pts, Or.inr ⟨_, _, rfl, by omega⟩, rdr_mono hR_wz (by omega), gb_trans (HN5.out.2.2) hg_wz⟩
    · go_wp2_with ((go_at_call 44; (with_reducible refine (pick_any (k + 4 + 1) R (3) _ ?_ (by omega) (by omega) (by omega)).mono ?_); (focus ((repeat (first | with_reducible assumption | (with_reducible refine rdr_drewN ?_ _) | (with_reducible refine rdr_drew ?_) | (with_reducible refine rdr_alloc ?_ _) | (with_reducible refine rdr_setCell ?_ (by first | omega | (simp <;> omega) | simp) _) | (with_reducible refine rdr_chain ?_ (by with_reducible assumption)))); done)); rintro e wz ⟨m_wz, hm0_wz, hm1_wz, rfl, hR_wz, hg_wz, hq_wz⟩; have hs_wz := Nat.le_of_eq hq_wz; have ht_wz := Nat.le_of_eq hq_wz.symm; (try simp at hs_wz); (try simp at ht_wz); clear hq_wz); obtain ⟨hcn, hfn⟩ := gcell hg_wz; have e0 := (hcn g 0 hltf hgR).trans c0f; have e1 := (hcn g 1 hltf hgR).trans c1f)
      · go_region_law ((refine step_at _ (by rfl) _ _ _ (by rfl) 31 _ 2 16 Try.underlying23 info_point rfl (by decide) (by decide) g 4 4 1 (fl (r0 :: L)) 3 3 2 (by omega) (by omega) (by omega) (((HF.out.1).grown hg_wz hgR).alloc _) (by rfl) ⟨wz.heap.size, 0, none⟩ 1 1 [r0.1, r0.2] (by rfl) rfl (two_cellsD _ _ _ _) (by omega) ?_; intro g' o' cap' w' hle' hI hgr hloc))
        have HN := Lib.hid (And.intro hle' (And.intro hI (And.intro hgr hloc)))
        clear hle' hI hgr hloc
        go_wp2_with fail
        refine bodyPost_ret (v := .slice (some ⟨g', o', none⟩) 4 cap') (by simp [results, Try.results62, go_sem]) rfl ?_
        refine ⟨L ++ [r0], some ⟨g', o', none⟩, cap', by simp [hLl], by have := HN.out.1; simp [hLl]; omega, by simp [hLl], by rw [fl_append]; exact HN.out.2.1, Or.inr ⟨g', o', rfl, by have hx : g' = g ∨ wz.heap.size ≤ g' := HN.out.2.2.2.imp id (fun h => by simp at h; omega); omega⟩, rdr_mono (rdr_own (rdr_drew (rdr_alloc hR_wz _)) HN.out.2.2.1 (by omega)) (by omega), gb_own (gb_drew (gb_alloc (gb_trans (HF.out.2) hg_wz) _)) HN.out.2.2.1 (by omega)⟩
      · go_ret
        exact ⟨r0 :: L, _, 4, by simp [hLl], by first | (simp [hLl]; done) | (simp [hLl]; omega), by simp [hLl], ((HF.out.1).grown hg_wz hgR).pts, Or.inr ⟨_, _, rfl, by omega⟩, rdr_mono hR_wz (by omega), gb_trans (HF.out.2) hg_wz⟩
  · go_wp2_with ((go_at_call 44; (with_reducible refine (pick_any (k + 4) R (3) _ ?_ (by omega) (by omega) (by omega)).mono ?_); (focus ((repeat (first | with_reducible assumption | (with_reducible refine rdr_drewN ?_ _) | (with_reducible refine rdr_drew ?_) | (with_reducible refine rdr_alloc ?_ _) | (with_reducible refine rdr_setCell ?_ (by first | omega | (simp <;> omega) | simp) _) | (with_reducible refine rdr_chain ?_ (by with_reducible assumption)))); done)); rintro e wz ⟨m_wz, hm0_wz, hm1_wz, rfl, hR_wz, hg_wz, hq_wz⟩; have hs_wz := Nat.le_of_eq hq_wz; have ht_wz := Nat.le_of_eq hq_wz.symm; (try simp at hs_wz); (try simp at ht_wz); clear hq_wz); obtain ⟨hcn, hfn⟩ := gcell hg_wz; have e0 := (hcn g 0 hlt hgR).trans c0; have e1 := (hcn g 1 hlt hgR).trans c1)
    · go_region_law ((refine step_at _ (by rfl) _ _ _ (by rfl) 31 _ 2 16 Try.underlying23 info_point rfl (by decide) (by decide) g 4 4 1 (fl (r0 :: L)) 3 3 2 (by omega) (by omega) (by omega) (((HP.out.1).grown hg_wz hgR).alloc _) (by rfl) ⟨wz.heap.size, 0, none⟩ 1 1 [r0.1, r0.2] (by rfl) rfl (two_cellsD _ _ _ _) (by omega) ?_; intro g' o' cap' w' hle' hI hgr hloc))
      have HN := Lib.hid (And.intro hle' (And.intro hI (And.intro hgr hloc)))
      clear hle' hI hgr hloc
      go_wp2_with fail
      refine bodyPost_ret (v := .slice (some ⟨g', o', none⟩) 4 cap') (by simp [results, Try.results62, go_sem]) rfl ?_
      refine ⟨L ++ [r0], some ⟨g', o', none⟩, cap', by simp [hLl], by have := HN.out.1; simp [hLl]; omega, by simp [hLl], by rw [fl_append]; exact HN.out.2.1, Or.inr ⟨g', o', rfl, by have hx : g' = g ∨ wz.heap.size ≤ g' := HN.out.2.2.2.imp id (fun h => by simp at h; omega); omega⟩, rdr_mono (rdr_own (rdr_drew (rdr_alloc hR_wz _)) HN.out.2.2.1 (by omega)) (by omega), gb_own (gb_drew (gb_alloc (gb_trans (HP.out.2.2) hg_wz) _)) HN.out.2.2.1 (by omega)⟩
    · go_ret
      exact ⟨r0 :: L, _, 4, by simp [hLl], by first | (simp [hLl]; done) | (simp [hLl]; omega), by simp [hLl], ((HP.out.1).grown hg_wz hgR).pts, Or.inr ⟨_, _, rfl, by omega⟩, rdr_mono hR_wz (by omega), gb_trans (HP.out.2.2) hg_wz⟩
end Go.Proofs.Ythecapioagogbaa
