/-
  What the draws of traverses give: a list of at most six steps, by the reader and new memory alone.
-/
import Derived.Test.YtgncjpakclbegaaHa
import Derived.Test.YtgncjpakclbegaaYdr
import Derived.Test.YtgncjpakclbegaaZo
namespace Go.Proofs.Ytgncjpakclbegaa
open Go.RowKit Poly
set_option linter.unusedVariables false

theorem two_cellsI (V : World) (n : Nat) (x y : Int) (T : TypeId) (h : V.heap.size = n) : ∀ (j : Nat) (z : Int), [x, y][j]? = some z → (V.alloc (.cells #[.int .i64 x, .int .i64 y] T)).cell? ((⟨n, 0, none⟩ : Addr).add j) = some (.int .i64 z) := by
  subst h; exact two_cellsD V x y T
set_option maxRecDepth 100000 in
set_option maxHeartbeats 8000000 in
theorem travel_any (k R : Nat) (w : World) (h : Rdr k w R) (hk : k ≤ 50000) :
    Calls Try.prog 91 #[.pointer (some ⟨R, 0, none⟩)] w (DPs (k + 20) R w) := by
  have hR := rdr_lt h
  go_enter Try.func91, Try.ntmps91
  go_wp2_with ((go_at_call 60; (with_reducible refine (pick_any (k) R (6) _ ?_ (by omega) (by omega) (by omega)).mono ?_); (focus ((repeat (first | with_reducible assumption | (with_reducible refine rdr_drewN ?_ _) | (with_reducible refine rdr_drew ?_) | (with_reducible refine rdr_alloc ?_ _) | (with_reducible refine rdr_setCell ?_ (by first | omega | (simp <;> omega) | simp) _) | (with_reducible refine rdr_chain ?_ (by with_reducible assumption)))); done)); rintro e wa ⟨m_wa, hm0_wa, hm1_wa, rfl, hR_wa, hg_wa, hq_wa⟩; have hs_wa := Nat.le_of_eq hq_wa; have ht_wa := Nat.le_of_eq hq_wa.symm; (try simp at hs_wa); (try simp at ht_wa); clear hq_wa))
  obtain ⟨M, hM⟩ : ∃ M : Nat, m_wa = (M : Int) := ⟨m_wa.toNat, by omega⟩
  subst hM
  have hM5 : M ≤ 5 := by omega
  have hRa : R < wa.heap.size := by omega
  have HR := Lib.hid (And.intro hR_wa (And.intro (gb_trans (gb_alloc (gb_refl _ _) _) hg_wa) ((Own.empty w 31 2).grown hg_wa (by omega))))
  clear hR_wa hg_wa h hm0_wa hm1_wa
  go_loopw [3, 5] (fun v i wr => ∃ (q g cap : Nat) (L : List P2), q ≤ M + 1 ∧ i = .int .i64 q ∧ v = .slice (some ⟨g, 0, none⟩) q cap ∧ L.length = q ∧ g ≠ R ∧ w.heap.size ≤ g ∧ Own wr g 31 2 q cap (Poly.fl L) ∧ Rdr (k + 1 + 2 * q) wr R ∧ w.grownBy wr (some R)) (fun _ i _ => M + 1 - (intOf i).toNat)
  case atStart => exact ⟨0, w.heap.size, 0, [], Nat.zero_le _, rfl, rfl, rfl, by omega, Nat.le_refl _, HR.out.2.2, HR.out.1, HR.out.2.1⟩
  case round =>
    clear HR
    obtain ⟨q, g, cap, L, hq, rfl, rfl, hL, hgR, hgw, how, hrd, hgb⟩ := hrel
    have hlg := how.lt
    have hsz := hgb.size
    have HO := Lib.hid (And.intro how (And.intro hgb hL))
    clear how hgb hL
    by_cases hlt : q < M + 1
    · have hlt' : (q : Int) < 1 + (M : Int) := by omega
      go_wp2_with (first | (go_at_call 60; (with_reducible refine (pick_any (k + 1 + 2 * q) R (41) _ ?_ (by omega) (by omega) (by omega)).mono ?_); (focus ((repeat (first | with_reducible assumption | (with_reducible refine rdr_drewN ?_ _) | (with_reducible refine rdr_drew ?_) | (with_reducible refine rdr_alloc ?_ _) | (with_reducible refine rdr_setCell ?_ (by first | omega | (simp <;> omega) | simp) _) | (with_reducible refine rdr_chain ?_ (by with_reducible assumption)))); done)); rintro e wb ⟨m_wb, hm0_wb, hm1_wb, rfl, hR_wb, hg_wb, hq_wb⟩; have hs_wb := Nat.le_of_eq hq_wb; have ht_wb := Nat.le_of_eq hq_wb.symm; (try simp at hs_wb); (try simp at ht_wb); clear hq_wb) | (go_at_call 60; (with_reducible refine (pick_any (k + 1 + 2 * q + 1) R (41) _ ?_ (by omega) (by omega) (by omega)).mono ?_); (focus ((repeat (first | with_reducible assumption | (with_reducible refine rdr_drewN ?_ _) | (with_reducible refine rdr_drew ?_) | (with_reducible refine rdr_alloc ?_ _) | (with_reducible refine rdr_setCell ?_ (by first | omega | (simp <;> omega) | simp) _) | (with_reducible refine rdr_chain ?_ (by with_reducible assumption)))); done)); rintro e wc ⟨m_wc, hm0_wc, hm1_wc, rfl, hR_wc, hg_wc, hq_wc⟩; have hs_wc := Nat.le_of_eq hq_wc; have ht_wc := Nat.le_of_eq hq_wc.symm; (try simp at hs_wc); (try simp at ht_wc); clear hq_wc) | (at_builtin; refine wp_append _ rfl _ _ 23 rfl 31 _ 2 16 Try.underlying23 info_point rfl (by decide) (by decide) g q cap (Poly.fl L) rfl (((HO.out.1.grown hg_wb hgR).grown hg_wc hgR).alloc _) _ 1 1 [m_wb - 20, m_wc - 20] rfl rfl (two_cellsI _ _ _ _ _ (by simp)) (by omega) ?_; intro g' cap' w' hown hgr hloc hsz'; have HN := Lib.hid (And.intro hown (And.intro hgr hloc)); clear hown hgr hloc hsz'))
      have hx : g' = g ∨ wc.heap.size ≤ g' := HN.out.2.2.imp id (fun h => by simp at h; omega)
      have hgb2 := gb_alloc (gb_trans (gb_trans HO.out.2.1 hg_wb) hg_wc) (.cells #[.int .i64 (m_wb - 20), .int .i64 (m_wc - 20)] 31)
      refine ⟨⟨q + 1, g', cap', L ++ [(m_wb - 20, m_wc - 20)], by omega, by go_num, rfl, by rw [List.length_append, HO.out.2.2]; rfl, by omega, by omega, by rw [fl_append]; exact HN.out.1, ?_, gb_own hgb2 HN.out.2.1 hgw⟩, by simp [intOf]; omega⟩
      have := rdr_mono (k' := k + 1 + 2 * (q + 1)) hR_wc (by omega)
      exact rdr_own (rdr_alloc this _) HN.out.2.1 (by omega)
    · have e : q = M + 1 := by omega
      subst e
      go_upto_region 8 with ((go_at_call 60; (with_reducible refine (pick_any (k + 1 + 2 * (M + 1)) R (40) _ ?_ (by omega) (by omega) (by omega)).mono ?_); (focus ((repeat (first | with_reducible assumption | (with_reducible refine rdr_drewN ?_ _) | (with_reducible refine rdr_drew ?_) | (with_reducible refine rdr_alloc ?_ _) | (with_reducible refine rdr_setCell ?_ (by first | omega | (simp <;> omega) | simp) _) | (with_reducible refine rdr_chain ?_ (by with_reducible assumption)))); done)); rintro e wp ⟨m_wp, hm0_wp, hm1_wp, rfl, hR_wp, hg_wp, hq_wp⟩; have hs_wp := Nat.le_of_eq hq_wp; have ht_wp := Nat.le_of_eq hq_wp.symm; (try simp at hs_wp); (try simp at ht_wp); clear hq_wp))
      have how := HO.out.1.grown hg_wp hgR
      have hgbp := gb_trans HO.out.2.1 hg_wp
      have hLM := HO.out.2.2
      by_cases h0 : m_wp = 0
      · subst h0
        obtain ⟨⟨x0, y0⟩, l, rfl⟩ : ∃ a l, L = a :: l := by cases L with | nil => (simp at hLM) | cons a l => exact ⟨a, l, rfl⟩
        have z0 := how.cells (i := 0) (z := x0) rfl
        have f0 := how.frozen 0
        have hlp := how.lt
        have hRp := rdr_lt hR_wp
        have HW := Lib.hid (And.intro how (And.intro hgbp hLM))
        have hM0 : (0 : Int) < (M : Int) + 1 := by omega
        clear how hgbp hLM
        go_wp2_with ((go_at_call 60; (with_reducible refine (pick_any (k + 1 + 2 * (M + 1) + 1) R (2) _ ?_ (by omega) (by omega) (by omega)).mono ?_); (focus ((repeat (first | with_reducible assumption | (with_reducible refine rdr_drewN ?_ _) | (with_reducible refine rdr_drew ?_) | (with_reducible refine rdr_alloc ?_ _) | (with_reducible refine rdr_setCell ?_ (by first | omega | (simp <;> omega) | simp) _) | (with_reducible refine rdr_chain ?_ (by with_reducible assumption)))); done)); rintro e wx ⟨m_wx, hm0_wx, hm1_wx, rfl, hR_wx, hg_wx, hq_wx⟩; have hs_wx := Nat.le_of_eq hq_wx; have ht_wx := Nat.le_of_eq hq_wx.symm; (try simp at hs_wx); (try simp at ht_wx); clear hq_wx); obtain ⟨hc_wx, hf_wx⟩ := gcell hg_wx; obtain ⟨v, hv⟩ : ∃ v : Int, wx.cell? ⟨wp.heap.size, m_wx.toNat, none⟩ = some (.int .i64 v) := (by
          have hm : m_wx = 0 ∨ m_wx = 1 := by omega
          rcases hm with rfl | rfl
          · exact ⟨20001, by rw [hc_wx _ _ (by simp) (by omega)]; simp [go_sem]⟩
          · exact ⟨20000, by rw [hc_wx _ _ (by simp) (by omega)]; simp [go_sem]⟩); have z1 : wx.cell? ⟨g, 0, none⟩ = some (.int .i64 x0) := (by rw [hc_wx _ _ (by simp; omega) (by omega)]; exact cell_alloc_keep _ z0); have f1 : wx.frozen? ⟨g, 0, none⟩ = false := (by rw [hf_wx _ _ (by simp; omega) (by omega)]; have := ((Below.refl wp.heap.size wp).alloc (Nat.le_refl _) (.cells #[.int .i64 20001, .int .i64 20000] 3)).frozen (p := ⟨g, 0, none⟩) hlp; exact this.trans f0))
        have hox := ((HW.out.1.alloc (.cells #[.int .i64 20001, .int .i64 20000] 3)).grown hg_wx hgR).set 0 v (by simp [Poly.fl])
        have hgx := gb_trans (gb_alloc HW.out.2.1 (.cells #[.int .i64 20001, .int .i64 20000] 3)) hg_wx
        go_ret
        refine ⟨(v, y0) :: l, _, cap, by have := HW.out.2.2; simp only [List.length_cons] at this ⊢; rw [this]; rfl, ?_, ?_, hox.pts, Or.inr ⟨_, _, rfl, hgw⟩, rdr_mono (rdr_setCell hR_wx (show R < g by omega) _) (by omega), gb_new hgx (show w.heap.size ≤ g from hgw) _⟩
        · obtain ⟨_, _, hc, _⟩ := hox.body
          have := HW.out.2.2
          simp only [List.length_cons] at this ⊢
          omega
        · have := HW.out.2.2
          simp only [List.length_cons] at this ⊢
          omega
      · by_cases h1 : m_wp = 1
        · subst h1
          go_wp2_with fail
          go_ret
          exact ⟨[], _, 0, rfl, Nat.le_refl _, by simp, .inl rfl, .inl rfl, rdr_mono (rdr_alloc hR_wp _) (by omega), gb_alloc hgbp _⟩
        · by_cases h2 : m_wp = 2
          · subst h2
            have hm := fun w => made_pts w (M + 1) (by omega)
            have hMi : ((M + 1 : Nat) : Int) = 1 + (M : Int) := by omega
            simp only [hMi] at hm
            go_wp2_with fail
            have hz : Own (wp.alloc (.cells (madeCells (Array.replicate 2 (.int .i64 0)) ((M + 1) * 2)) 31)) wp.heap.size 31 2 (M + 1) (M + 1) (Poly.fl (List.replicate (M + 1) (0, 0))) := by
              rw [fl_zeros]
              exact Own.made wp 31 (M + 1) 2 (by decide) (by unfold maxLen; omega)
            go_ret
            exact ⟨List.replicate (M + 1) (0, 0), _, M + 1, by rw [List.length_replicate]; rfl, by simp, by simp; omega, hz.pts, Or.inr ⟨_, _, rfl, by omega⟩, rdr_mono (rdr_alloc hR_wp _) (by omega), gb_alloc hgbp _⟩
          · have h3 : (m_wp == 0) = false := by simpa using h0
            have h4 : (m_wp == 1) = false := by simpa using h1
            have h5 : (m_wp == 2) = false := by simpa using h2
            go_wp2_with fail
            go_ret
            exact ⟨L, _, cap, by rw [hLM]; rfl, by obtain ⟨_, _, hc, _⟩ := how.body; omega, by omega, how.pts, Or.inr ⟨_, _, rfl, hgw⟩, rdr_mono hR_wp (by omega), hgbp⟩
/-- a drawn list of steps, by new memory alone -/
def DPq (w : World) (e : Ending) (w' : World) : Prop :=
  ∃ (L : List P2) (p : Option Addr) (c : Nat), e = .returned (.slice p L.length c) ∧ L.length ≤ c ∧ L.length ≤ 12 ∧ Ints w' p (Poly.fl L) ∧ (L = [] ∨ ∃ B o, p = some ⟨B, o, none⟩ ∧ w.heap.size ≤ B) ∧ Below w.heap.size w w'
set_option maxHeartbeats 4000000 in
theorem drawTravelLength_is (v : Value) (w : World) (h : Hid (Code' w v)) :
    Calls Try.prog 41 #[v] w (DPq w) := by
  go_enter Try.func41, Try.ntmps41
  go_wp2_with (first | (go_at_call 58; (with_reducible refine (open_any _ _ h).mono ?_); rintro e wo ⟨rfl, hR_wo, hb_wo, hz_wo⟩; have hs_wo := hb_wo.size; clear hz_wo) | (go_at_call 91; (with_reducible refine (travel_any 0 w.heap.size _ hR_wo (by omega)).mono ?_); rintro e wb ⟨L, p, c, rfl, hc, hl, hi, hne, hrd, hgb⟩))
  go_ret
  exact ⟨L, p, c, rfl, hc, hl, hi, dps_le hne hs_wo, below_gb hb_wo hgb (Nat.le_refl _) hs_wo⟩
set_option maxHeartbeats 4000000 in
theorem drawTravelClose_is (v : Value) (w : World) (h : Hid (Code' w v)) :
    Calls Try.prog 44 #[v] w (DPq w) := by
  go_enter Try.func44, Try.ntmps44
  go_wp2_with (first | (go_at_call 58; (with_reducible refine (open_any _ _ h).mono ?_); rintro e wo ⟨rfl, hR_wo, hb_wo, hz_wo⟩; have hs_wo := hb_wo.size; clear hz_wo) | (go_at_call 91; (with_reducible refine (travel_any 0 w.heap.size _ hR_wo (by omega)).mono ?_); rintro e wb ⟨L, p, c, rfl, hc, hl, hi, hne, hrd, hgb⟩))
  go_ret
  exact ⟨L, p, c, rfl, hc, hl, hi, dps_le hne hs_wo, below_gb hb_wo hgb (Nat.le_refl _) hs_wo⟩
/-- a drawn point and a drawn list of steps -/
def DPf2 (k R : Nat) (w : World) (e : Ending) (w' : World) : Prop :=
  ∃ (x y : Int) (L : List P2) (p : Option Addr) (c : Nat), e = .returned (.tuple #[.agg #[.int .i64 x, .int .i64 y], .slice p L.length c]) ∧ L.length ≤ c ∧ L.length ≤ 12 ∧ Ints w' p (Poly.fl L) ∧ (L = [] ∨ ∃ B o, p = some ⟨B, o, none⟩ ∧ w.heap.size ≤ B) ∧ Rdr k w' R ∧ w.grownBy w' (some R)
set_option maxRecDepth 100000 in
set_option maxHeartbeats 8000000 in
theorem from_any (k R : Nat) (w : World) (h : Rdr k w R) (hk : k ≤ 40000) :
    Calls Try.prog 80 #[.pointer (some ⟨R, 0, none⟩)] w (DPf2 (k + 30) R w) := by
  have hR := rdr_lt h
  go_enter Try.func80, Try.ntmps80
  go_upto_region 2 with (go_at_call 101; (with_reducible refine (dpt_any k R _ (rdr_alloc h _) (by omega)).mono ?_); rintro e wa ⟨x, y, x0, x1, y0, y1, rfl, hra, hga⟩; have hsa := hga.size)
  have hsa' : w.heap.size + 1 ≤ wa.heap.size := by simpa using hsa
  obtain ⟨Y, hY⟩ : ∃ Y, wa.heap.size = Y := ⟨_, rfl⟩
  obtain ⟨V, hV⟩ : ∃ V, wa.alloc (.cells #[.int .i64 x, .int .i64 y] 31) = V := ⟨_, rfl⟩
  have v0 : V.cell? ⟨Y, 0, none⟩ = some (.int .i64 x) := by rw [← hV, ← hY]; simp [go_sem]
  have v1 : V.cell? ⟨Y, 1, none⟩ = some (.int .i64 y) := by rw [← hV, ← hY]; simp [go_sem]
  obtain ⟨hc_wa, hf_wa⟩ := gcell hga
  have a0 : wa.cell? ⟨w.heap.size, 0, none⟩ = some (.int .i64 0) := by rw [hc_wa _ _ (by simp) (by omega)]; simp [go_sem]
  have a1 : wa.cell? ⟨w.heap.size, 1, none⟩ = some (.int .i64 0) := by rw [hc_wa _ _ (by simp) (by omega)]; simp [go_sem]
  have b0 : wa.frozen? ⟨w.heap.size, 0, none⟩ = false := by rw [hf_wa _ _ (by simp) (by omega)]; simp [go_sem]
  have b1 : wa.frozen? ⟨w.heap.size, 1, none⟩ = false := by rw [hf_wa _ _ (by simp) (by omega)]; simp [go_sem]
  have hA : Below wa.heap.size wa V := by rw [← hV]; exact (Below.refl _ _).alloc (Nat.le_refl _) _
  have lw : w.heap.size < wa.heap.size := by omega
  have r0 := (hA.cell (p := ⟨w.heap.size, 0, none⟩) lw).trans a0
  have r1 := (hA.cell (p := ⟨w.heap.size, 1, none⟩) lw).trans a1
  have q0 := (hA.frozen (p := ⟨w.heap.size, 0, none⟩) lw).trans b0
  have q1 := (hA.frozen (p := ⟨w.heap.size, 1, none⟩) lw).trans b1
  have hRV := rdr_chain hra hA
  have hgV : w.grownBy V (some R) := gb_below (gb_trans (gb_alloc (gb_refl _ _) _) hga) hA
  have lY : Y < V.heap.size := World.block_lt_of_cell? V _ v0
  have lwV : w.heap.size < V.heap.size := World.block_lt_of_cell? V _ r0
  have hYR : Y ≠ R := by omega
  have hYw : Y ≠ w.heap.size := by omega
  have hwR : w.heap.size ≠ R := by omega
  have HV := Lib.hid hgV
  have hsV := hgV.size
  rw [hV, hY]
  clear hV hA a0 a1 b0 b1 hc_wa hf_wa hga hra hgV hsa
  go_region_held3 (fun W => W.cell? ⟨Y, 0, none⟩ = some (.int .i64 x) ∧ W.cell? ⟨Y, 1, none⟩ = some (.int .i64 y)) (first | (go_keep; done) | (exact ⟨t0, t1⟩) | (refine ⟨?_, ?_⟩ <;> ((with_reducible refine cell_set_keep _ ?_ ?_); (focus (dsimp only; omega)); (with_reducible refine cell_set_keep _ ?_ ?_); (focus (dsimp only; omega)); with_reducible assumption))) ((go_at_call 91; (with_reducible refine (travel_any (k + 5) R _ (rdr_drew hRV) (by omega)).mono ?_); rintro e wt ⟨L, p, c, rfl, hc, hl, hi, hne, hrd, hgb⟩; obtain ⟨hc_wt, hf_wt⟩ := gcell hgb; have hst := hgb.size; (try simp at hst); have s0 : wt.cell? ⟨w.heap.size, 0, none⟩ = some (.int .i64 0) := (hc_wt _ _ (by simpa using lwV) hwR).trans r0; have s1 : wt.cell? ⟨w.heap.size, 1, none⟩ = some (.int .i64 0) := (hc_wt _ _ (by simpa using lwV) hwR).trans r1; have p0 : wt.frozen? ⟨w.heap.size, 0, none⟩ = false := (hf_wt _ _ (by simpa using lwV) hwR).trans q0; have p1 : wt.frozen? ⟨w.heap.size, 1, none⟩ = false := (hf_wt _ _ (by simpa using lwV) hwR).trans q1; have t0 : wt.cell? ⟨Y, 0, none⟩ = some (.int .i64 x) := (hc_wt _ _ (by simpa using lY) hYR).trans v0; have t1 : wt.cell? ⟨Y, 1, none⟩ = some (.int .i64 y) := (hc_wt _ _ (by simpa using lY) hYR).trans v1))
  go_wp2_with fail
  have hne' : L = [] ∨ ∃ B o, p = some ⟨B, o, none⟩ ∧ V.heap.size ≤ B := hne
  have hiF : Ints ((wt.setCell ⟨w.heap.size, 0, none⟩ (.int .i64 x)).setCell ⟨w.heap.size, 1, none⟩ (.int .i64 y)) p (Poly.fl L) := dps_keep hne' lwV hi (gb_setCell (g := w.heap.size) (gb_setCell (g := w.heap.size) (gb_refl _ _) (.inl rfl) _) (.inl rfl) _)
  have hgF : w.grownBy ((wt.setCell ⟨w.heap.size, 0, none⟩ (.int .i64 x)).setCell ⟨w.heap.size, 1, none⟩ (.int .i64 y)) (some R) := gb_new (gb_new (gb_trans (gb_drew HV.out) hgb) (show w.heap.size ≤ w.heap.size from Nat.le_refl _) _) (show w.heap.size ≤ w.heap.size from Nat.le_refl _) _
  have hrF : Rdr (k + 30) ((wt.setCell ⟨w.heap.size, 0, none⟩ (.int .i64 x)).setCell ⟨w.heap.size, 1, none⟩ (.int .i64 y)) R := rdr_mono (rdr_setCell (rdr_setCell hrd (show R < w.heap.size from hR) _) (show R < w.heap.size from hR) _) (by omega)
  exact bodyPost_ret (v := .tuple #[.agg #[.int .i64 x, .int .i64 y], .slice p L.length c]) (by simp [results, Try.results80, go_sem, s0, s1]) rfl ⟨x, y, L, p, c, rfl, hc, hl, hiF, dps_le hne' hsV, hrF, hgF⟩
theorem code_belowI {w w' : World} {v : Value} (h : Code' w v) (hb : Below w.heap.size w w') : Code' w' v := by
  rcases h with ⟨a, c, rfl⟩ | ⟨D, off, len, cap, f, rfl, h1, h2, h3, h4, h5⟩
  · exact .inl ⟨a, c, rfl⟩
  · refine .inr ⟨D, off, len, cap, f, rfl, h1, h2, h3, Nat.lt_of_lt_of_le h4 hb.size, fun j hj => ?_⟩
    rw [hb.cell (p := ⟨D, off + j, none⟩) h4]
    exact h5 j hj
/-- a drawn point and a drawn list of steps, by new memory alone -/
def DPg (w : World) (e : Ending) (w' : World) : Prop :=
  ∃ (x y : Int) (L : List P2) (p : Option Addr) (c : Nat), e = .returned (.tuple #[.agg #[.int .i64 x, .int .i64 y], .slice p L.length c]) ∧ L.length ≤ c ∧ L.length ≤ 12 ∧ Ints w' p (Poly.fl L) ∧ (L = [] ∨ ∃ B o, p = some ⟨B, o, none⟩ ∧ w.heap.size ≤ B) ∧ Below w.heap.size w w'
set_option maxHeartbeats 4000000 in
theorem drawTravelEnd_is (v : Value) (w : World) (h : Hid (Code' w v)) :
    Calls Try.prog 32 #[v] w (DPg w) := by
  go_enter Try.func32, Try.ntmps32
  go_wp2_with (first | (go_at_call 58; (with_reducible refine (open_any _ _ (Lib.hid (code_belowI h.out ((Below.refl _ w).alloc (Nat.le_refl _) _)))).mono ?_); rintro e wo ⟨rfl, hR_wo, hb_wo, hz_wo⟩; have hs_wo := hb_wo.size; (try simp at hs_wo); (simp only [World.size_alloc] at hR_wo); obtain ⟨hc_wo, hf_wo⟩ := bcell hb_wo; have lwo : w.heap.size < wo.heap.size := (by omega); have k0 : wo.cell? ⟨w.heap.size, 0, none⟩ = some (.int .i64 0) := (by rw [hc_wo _ _ (by simp)]; simp [go_sem]); have k1 : wo.cell? ⟨w.heap.size, 1, none⟩ = some (.int .i64 0) := (by rw [hc_wo _ _ (by simp)]; simp [go_sem]); have f0 : wo.frozen? ⟨w.heap.size, 0, none⟩ = false := (by rw [hf_wo _ _ (by simp)]; simp [go_sem]); have f1 : wo.frozen? ⟨w.heap.size, 1, none⟩ = false := (by rw [hf_wo _ _ (by simp)]; simp [go_sem])) | (go_at_call 80; (with_reducible refine (from_any 0 (w.heap.size + 1) _ hR_wo (by omega)).mono ?_); rintro e wb ⟨x, y, L, p, c, rfl, hc, hl, hi, hne, hrd, hgb⟩; obtain ⟨hc_wb, hf_wb⟩ := gcell hgb; have hwR : w.heap.size ≠ w.heap.size + 1 := (by omega); have k0 := (hc_wb _ _ lwo hwR).trans k0; have k1 := (hc_wb _ _ lwo hwR).trans k1; have f0 := (hf_wb _ _ lwo hwR).trans f0; have f1 := (hf_wb _ _ lwo hwR).trans f1))
  have hb1 : Below w.heap.size w wo := ((Below.refl _ w).alloc (Nat.le_refl _) _).trans (hb_wo.mono (by simp))
  have hb2 : Below w.heap.size w wb := below_gb hb1 hgb (by omega) (by omega)
  have hiF : Ints ((wb.setCell ⟨w.heap.size, 0, none⟩ (.int .i64 x)).setCell ⟨w.heap.size, 1, none⟩ (.int .i64 y)) p (Poly.fl L) := dps_keep hne lwo hi (gb_setCell (g := w.heap.size) (gb_setCell (g := w.heap.size) (gb_refl _ _) (.inl rfl) _) (.inl rfl) _)
  exact bodyPost_ret (v := .tuple #[.agg #[.int .i64 x, .int .i64 y], .slice p L.length c]) (by simp [results, Try.results32, go_sem, k0, k1]) rfl ⟨x, y, L, p, c, rfl, hc, hl, hiF, dps_le hne (by omega), (hb2.setCell (p := ⟨w.heap.size, 0, none⟩) (Nat.le_refl _) _).setCell (p := ⟨w.heap.size, 1, none⟩) (Nat.le_refl _) _⟩
set_option maxHeartbeats 4000000 in
theorem drawTravelPoints_is (v : Value) (w : World) (h : Hid (Code' w v)) :
    Calls Try.prog 36 #[v] w (DPg w) := by
  go_enter Try.func36, Try.ntmps36
  go_wp2_with (first | (go_at_call 58; (with_reducible refine (open_any _ _ (Lib.hid (code_belowI h.out ((Below.refl _ w).alloc (Nat.le_refl _) _)))).mono ?_); rintro e wo ⟨rfl, hR_wo, hb_wo, hz_wo⟩; have hs_wo := hb_wo.size; (try simp at hs_wo); (simp only [World.size_alloc] at hR_wo); obtain ⟨hc_wo, hf_wo⟩ := bcell hb_wo; have lwo : w.heap.size < wo.heap.size := (by omega); have k0 : wo.cell? ⟨w.heap.size, 0, none⟩ = some (.int .i64 0) := (by rw [hc_wo _ _ (by simp)]; simp [go_sem]); have k1 : wo.cell? ⟨w.heap.size, 1, none⟩ = some (.int .i64 0) := (by rw [hc_wo _ _ (by simp)]; simp [go_sem]); have f0 : wo.frozen? ⟨w.heap.size, 0, none⟩ = false := (by rw [hf_wo _ _ (by simp)]; simp [go_sem]); have f1 : wo.frozen? ⟨w.heap.size, 1, none⟩ = false := (by rw [hf_wo _ _ (by simp)]; simp [go_sem])) | (go_at_call 80; (with_reducible refine (from_any 0 (w.heap.size + 1) _ hR_wo (by omega)).mono ?_); rintro e wb ⟨x, y, L, p, c, rfl, hc, hl, hi, hne, hrd, hgb⟩; obtain ⟨hc_wb, hf_wb⟩ := gcell hgb; have hwR : w.heap.size ≠ w.heap.size + 1 := (by omega); have k0 := (hc_wb _ _ lwo hwR).trans k0; have k1 := (hc_wb _ _ lwo hwR).trans k1; have f0 := (hf_wb _ _ lwo hwR).trans f0; have f1 := (hf_wb _ _ lwo hwR).trans f1))
  have hb1 : Below w.heap.size w wo := ((Below.refl _ w).alloc (Nat.le_refl _) _).trans (hb_wo.mono (by simp))
  have hb2 : Below w.heap.size w wb := below_gb hb1 hgb (by omega) (by omega)
  have hiF : Ints ((wb.setCell ⟨w.heap.size, 0, none⟩ (.int .i64 x)).setCell ⟨w.heap.size, 1, none⟩ (.int .i64 y)) p (Poly.fl L) := dps_keep hne lwo hi (gb_setCell (g := w.heap.size) (gb_setCell (g := w.heap.size) (gb_refl _ _) (.inl rfl) _) (.inl rfl) _)
  exact bodyPost_ret (v := .tuple #[.agg #[.int .i64 x, .int .i64 y], .slice p L.length c]) (by simp [results, Try.results36, go_sem, k0, k1]) rfl ⟨x, y, L, p, c, rfl, hc, hl, hiF, dps_le hne (by omega), (hb2.setCell (p := ⟨w.heap.size, 0, none⟩) (Nat.le_refl _) _).setCell (p := ⟨w.heap.size, 1, none⟩) (Nat.le_refl _) _⟩
end Go.Proofs.Ytgncjpakclbegaa
