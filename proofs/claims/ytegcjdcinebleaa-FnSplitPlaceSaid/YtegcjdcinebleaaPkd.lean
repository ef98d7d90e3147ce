/-
  The laws' drawn parcels: a list of points; a list and two indexes; two lists.
-/
import Derived.Test.YtegcjdcinebleaaYdr
import Derived.Test.YtegcjdcinebleaaPky
namespace Go.Proofs.Ytegcjdcinebleaa
open Go.RowKit Poly
set_option linter.unusedVariables false

set_option maxHeartbeats 4000000 in
theorem drawParcelValid_is (v : Value) (w : World) (h : Hid (Code' w v)) :
    Calls Try.prog 33 #[v] w (DPb w) := by
  go_enter Try.func33, Try.ntmps33
  go_wp2_with (first | (go_at_call 60; (with_reducible refine (open_any _ _ h).mono ?_); rintro e wo ⟨rfl, hR_wo, hb_wo, hz_wo⟩; have hs_wo := hb_wo.size; clear hz_wo) | (go_at_call 61; (with_reducible refine (poly_any 0 w.heap.size _ hR_wo (by omega)).mono ?_); rintro e wb ⟨L, p, c, rfl, hc, hl, hi, hne, hrd, hgb⟩))
  go_ret
  exact ⟨L, p, c, rfl, hc, hl, hi, below_gb hb_wo hgb (Nat.le_refl _) hs_wo⟩
set_option maxHeartbeats 4000000 in
theorem drawParcelMarks_is (v : Value) (w : World) (h : Hid (Code' w v)) :
    Calls Try.prog 48 #[v] w (DPb w) := by
  go_enter Try.func48, Try.ntmps48
  go_wp2_with (first | (go_at_call 60; (with_reducible refine (open_any _ _ h).mono ?_); rintro e wo ⟨rfl, hR_wo, hb_wo, hz_wo⟩; have hs_wo := hb_wo.size; clear hz_wo) | (go_at_call 61; (with_reducible refine (poly_any 0 w.heap.size _ hR_wo (by omega)).mono ?_); rintro e wb ⟨L, p, c, rfl, hc, hl, hi, hne, hrd, hgb⟩))
  go_ret
  exact ⟨L, p, c, rfl, hc, hl, hi, below_gb hb_wo hgb (Nat.le_refl _) hs_wo⟩
/-- a drawn list of points and two indexes, behind a reader -/
def DSs (k R : Nat) (w : World) (e : Ending) (w' : World) : Prop :=
  ∃ (L : List P2) (p : Option Addr) (c : Nat) (i j : Int), e = .returned (.tuple #[.slice p L.length c, .int .i64 i, .int .i64 j]) ∧ (L.length ≤ c ∧ L.length ≤ 12 ∧ 0 ≤ i ∧ i ≤ 100 ∧ 0 ≤ j ∧ j ≤ 100) ∧ Ints w' p (fl L) ∧ (L = [] ∨ ∃ B o, p = some ⟨B, o, none⟩ ∧ w.heap.size ≤ B) ∧ Rdr k w' R ∧ w.grownBy w' (some R)
set_option maxHeartbeats 8000000 in
theorem split_any (k R : Nat) (w : World) (h : Rdr k w R) (hk : k ≤ 50000) :
    Calls Try.prog 84 #[.pointer (some ⟨R, 0, none⟩)] w (DSs (k + 35) R w) := by
  have hR := rdr_lt h
  go_enter Try.func84, Try.ntmps84
  go_upto_region 3 with (go_at_call 61; (with_reducible refine (poly_any k R _ h (by omega)).mono ?_); rintro e wb ⟨L, p, c, rfl, hc, hl, hi, hne, hrd, hgb⟩)
  have hs_wb := hgb.size
  have HP := Lib.hid (And.intro hi (And.intro hne hgb))
  clear hi hne hgb h
  obtain ⟨n, hn⟩ : ∃ n, L.length = n := ⟨_, rfl⟩
  have HN := Lib.hid hn
  rw [hn] at hc hl ⊢
  clear hn
  by_cases h4 : n < 4
  · have h4' : (n : Int) < 4 := by omega
    go_wp2_with (first | (go_at_call 62; (with_reducible refine (pick_any (k + 32) R (3) _ ?_ (by omega) (by omega) (by omega)).mono ?_); (focus ((repeat (first | with_reducible assumption | (with_reducible refine rdr_drewN ?_ _) | (with_reducible refine rdr_drew ?_) | (with_reducible refine rdr_alloc ?_ _) | (with_reducible refine rdr_setCell ?_ (by first | omega | (simp <;> omega) | simp) _) | (with_reducible refine rdr_chain ?_ (by with_reducible assumption)))); done)); rintro e wc ⟨m_wc, hm0_wc, hm1_wc, rfl, hR_wc, hg_wc, hq_wc⟩; have hs_wc := Nat.le_of_eq hq_wc; have ht_wc := Nat.le_of_eq hq_wc.symm; (try simp at hs_wc); (try simp at ht_wc); clear hq_wc) | (go_at_call 62; (with_reducible refine (pick_any (k + 32 + 1) R (6) _ ?_ (by omega) (by omega) (by omega)).mono ?_); (focus ((repeat (first | with_reducible assumption | (with_reducible refine rdr_drewN ?_ _) | (with_reducible refine rdr_drew ?_) | (with_reducible refine rdr_alloc ?_ _) | (with_reducible refine rdr_setCell ?_ (by first | omega | (simp <;> omega) | simp) _) | (with_reducible refine rdr_chain ?_ (by with_reducible assumption)))); done)); rintro e wd ⟨m_wd, hm0_wd, hm1_wd, rfl, hR_wd, hg_wd, hq_wd⟩; have hs_wd := Nat.le_of_eq hq_wd; have ht_wd := Nat.le_of_eq hq_wd.symm; (try simp at hs_wd); (try simp at ht_wd); clear hq_wd))
    refine bodyPost_ret (v := .tuple #[.slice p n c, .int .i64 m_wc, .int .i64 m_wd]) (by simp [results, Try.results84, go_sem]) rfl ⟨L, p, c, m_wc, m_wd, by rw [HN.out], ⟨by rw [HN.out]; exact hc, by rw [HN.out]; exact hl, by omega, by omega, by omega, by omega⟩, ?_, HP.out.2.1, rdr_mono hR_wd (by omega), gb_trans (gb_trans HP.out.2.2 hg_wc) hg_wd⟩
    exact dps_keep HP.out.2.1 (by omega) (dps_keep HP.out.2.1 (by omega) HP.out.1 hg_wc) hg_wd
  · have h4' : ¬ (n : Int) < 4 := by omega
    have hn2 : (1 : Int) ≤ (n : Int) - 2 := by omega
    go_wp2_with (first | (go_at_call 62; (with_reducible refine (pick_any (k + 32) R (16) _ ?_ (by omega) (by omega) (by omega)).mono ?_); (focus ((repeat (first | with_reducible assumption | (with_reducible refine rdr_drewN ?_ _) | (with_reducible refine rdr_drew ?_) | (with_reducible refine rdr_alloc ?_ _) | (with_reducible refine rdr_setCell ?_ (by first | omega | (simp <;> omega) | simp) _) | (with_reducible refine rdr_chain ?_ (by with_reducible assumption)))); done)); rintro e wc ⟨m_wc, hm0_wc, hm1_wc, rfl, hR_wc, hg_wc, hq_wc⟩; have hs_wc := Nat.le_of_eq hq_wc; have ht_wc := Nat.le_of_eq hq_wc.symm; (try simp at hs_wc); (try simp at ht_wc); clear hq_wc) | (go_at_call 62; (with_reducible refine (pick_any (k + 32 + 1) R (3) _ ?_ (by omega) (by omega) (by omega)).mono ?_); (focus ((repeat (first | with_reducible assumption | (with_reducible refine rdr_drewN ?_ _) | (with_reducible refine rdr_drew ?_) | (with_reducible refine rdr_alloc ?_ _) | (with_reducible refine rdr_setCell ?_ (by first | omega | (simp <;> omega) | simp) _) | (with_reducible refine rdr_chain ?_ (by with_reducible assumption)))); done)); rintro e wd ⟨m_wd, hm0_wd, hm1_wd, rfl, hR_wd, hg_wd, hq_wd⟩; have hs_wd := Nat.le_of_eq hq_wd; have ht_wd := Nat.le_of_eq hq_wd.symm; (try simp at hs_wd); (try simp at ht_wd); clear hq_wd) | (go_at_call 62; (with_reducible refine (pick_any (k + 32 + 1 + 1) R (6) _ ?_ (by omega) (by omega) (by omega)).mono ?_); (focus ((repeat (first | with_reducible assumption | (with_reducible refine rdr_drewN ?_ _) | (with_reducible refine rdr_drew ?_) | (with_reducible refine rdr_alloc ?_ _) | (with_reducible refine rdr_setCell ?_ (by first | omega | (simp <;> omega) | simp) _) | (with_reducible refine rdr_chain ?_ (by with_reducible assumption)))); done)); rintro e we ⟨m_we, hm0_we, hm1_we, rfl, hR_we, hg_we, hq_we⟩; have hs_we := Nat.le_of_eq hq_we; have ht_we := Nat.le_of_eq hq_we.symm; (try simp at hs_we); (try simp at ht_we); clear hq_we) | (go_at_call 62; (with_reducible refine (pick_any (k + 32 + 1) R ((n : Int) - 2) _ ?_ (by omega) (by omega) (by omega)).mono ?_); (focus ((repeat (first | with_reducible assumption | (with_reducible refine rdr_drewN ?_ _) | (with_reducible refine rdr_drew ?_) | (with_reducible refine rdr_alloc ?_ _) | (with_reducible refine rdr_setCell ?_ (by first | omega | (simp <;> omega) | simp) _) | (with_reducible refine rdr_chain ?_ (by with_reducible assumption)))); done)); rintro e wf ⟨m_wf, hm0_wf, hm1_wf, rfl, hR_wf, hg_wf, hq_wf⟩; have hs_wf := Nat.le_of_eq hq_wf; have ht_wf := Nat.le_of_eq hq_wf.symm; (try simp at hs_wf); (try simp at ht_wf); clear hq_wf) | (go_at_call 62; (with_reducible refine (pick_any (k + 32 + 1 + 1) R ((n : Int) - 2 - m_wf) _ ?_ (by omega) (by omega) (by omega)).mono ?_); (focus ((repeat (first | with_reducible assumption | (with_reducible refine rdr_drewN ?_ _) | (with_reducible refine rdr_drew ?_) | (with_reducible refine rdr_alloc ?_ _) | (with_reducible refine rdr_setCell ?_ (by first | omega | (simp <;> omega) | simp) _) | (with_reducible refine rdr_chain ?_ (by with_reducible assumption)))); done)); rintro e wg ⟨m_wg, hm0_wg, hm1_wg, rfl, hR_wg, hg_wg, hq_wg⟩; have hs_wg := Nat.le_of_eq hq_wg; have ht_wg := Nat.le_of_eq hq_wg.symm; (try simp at hs_wg); (try simp at ht_wg); clear hq_wg))
    · refine bodyPost_ret (v := .tuple #[.slice p n c, .int .i64 m_wd, .int .i64 m_we]) (by simp [results, Try.results84, go_sem]) rfl ⟨L, p, c, m_wd, m_we, by rw [HN.out], ⟨by rw [HN.out]; exact hc, by rw [HN.out]; exact hl, by omega, by omega, by omega, by omega⟩, (dps_keep HP.out.2.1 (by omega) (dps_keep HP.out.2.1 (by omega) (dps_keep HP.out.2.1 (by omega) HP.out.1 hg_wc) hg_wd) hg_we), HP.out.2.1, rdr_mono hR_we (by omega), (gb_trans (gb_trans (gb_trans HP.out.2.2 hg_wc) hg_wd) hg_we)⟩
    · refine bodyPost_ret (v := .tuple #[.slice p n c, .int .i64 m_wf, .int .i64 (m_wf + 2 + m_wg)]) (by simp [results, Try.results84, go_sem]) rfl ⟨L, p, c, m_wf, (m_wf + 2 + m_wg), by rw [HN.out], ⟨by rw [HN.out]; exact hc, by rw [HN.out]; exact hl, by omega, by omega, by omega, by omega⟩, (dps_keep HP.out.2.1 (by omega) (dps_keep HP.out.2.1 (by omega) (dps_keep HP.out.2.1 (by omega) HP.out.1 hg_wc) hg_wf) hg_wg), HP.out.2.1, rdr_mono hR_wg (by omega), (gb_trans (gb_trans (gb_trans HP.out.2.2 hg_wc) hg_wf) hg_wg)⟩
    · refine bodyPost_ret (v := .tuple #[.slice p n c, .int .i64 m_wf, .int .i64 ((n : Int) - 1)]) (by simp [results, Try.results84, go_sem]) rfl ⟨L, p, c, m_wf, ((n : Int) - 1), by rw [HN.out], ⟨by rw [HN.out]; exact hc, by rw [HN.out]; exact hl, by omega, by omega, by omega, by omega⟩, (dps_keep HP.out.2.1 (by omega) (dps_keep HP.out.2.1 (by omega) (dps_keep HP.out.2.1 (by omega) HP.out.1 hg_wc) hg_wf) hg_wg), HP.out.2.1, rdr_mono hR_wg (by omega), (gb_trans (gb_trans (gb_trans HP.out.2.2 hg_wc) hg_wf) hg_wg)⟩
/-- a drawn list of points and two indexes, by new memory alone -/
def DSb (w : World) (e : Ending) (w' : World) : Prop :=
  ∃ (L : List P2) (p : Option Addr) (c : Nat) (i j : Int), e = .returned (.tuple #[.slice p L.length c, .int .i64 i, .int .i64 j]) ∧ (L.length ≤ c ∧ L.length ≤ 12 ∧ 0 ≤ i ∧ i ≤ 100 ∧ 0 ≤ j ∧ j ≤ 100) ∧ Ints w' p (fl L) ∧ Below w.heap.size w w'
set_option maxHeartbeats 4000000 in
theorem drawParcelSplit_is (v : Value) (w : World) (h : Hid (Code' w v)) :
    Calls Try.prog 37 #[v] w (DSb w) := by
  go_enter Try.func37, Try.ntmps37
  go_wp2_with (first | (go_at_call 60; (with_reducible refine (open_any _ _ h).mono ?_); rintro e wo ⟨rfl, hR_wo, hb_wo, hz_wo⟩; have hs_wo := hb_wo.size; clear hz_wo) | (go_at_call 84; (with_reducible refine (split_any 0 w.heap.size _ hR_wo (by omega)).mono ?_); rintro e wb ⟨L, p, c, i, j, rfl, hc, hi, hne, hrd, hgb⟩))
  refine bodyPost_ret (v := .tuple #[.slice p L.length c, .int .i64 i, .int .i64 j]) (by simp [results, Try.results37, go_sem]) rfl ⟨L, p, c, i, j, rfl, hc, hi, below_gb hb_wo hgb (Nat.le_refl _) hs_wo⟩
set_option maxHeartbeats 4000000 in
theorem drawParcelShare_is (v : Value) (w : World) (h : Hid (Code' w v)) :
    Calls Try.prog 43 #[v] w (DSb w) := by
  go_enter Try.func43, Try.ntmps43
  go_wp2_with (first | (go_at_call 60; (with_reducible refine (open_any _ _ h).mono ?_); rintro e wo ⟨rfl, hR_wo, hb_wo, hz_wo⟩; have hs_wo := hb_wo.size; clear hz_wo) | (go_at_call 84; (with_reducible refine (split_any 0 w.heap.size _ hR_wo (by omega)).mono ?_); rintro e wb ⟨L, p, c, i, j, rfl, hc, hi, hne, hrd, hgb⟩))
  refine bodyPost_ret (v := .tuple #[.slice p L.length c, .int .i64 i, .int .i64 j]) (by simp [results, Try.results43, go_sem]) rfl ⟨L, p, c, i, j, rfl, hc, hi, below_gb hb_wo hgb (Nat.le_refl _) hs_wo⟩
/-- two drawn lists, by new memory alone -/
def DCb (w : World) (e : Ending) (w' : World) : Prop :=
  ∃ (L : List P2) (p : Option Addr) (c : Nat) (M : List P2) (q : Option Addr) (d : Nat), e = .returned (.tuple #[.slice p L.length c, .slice q M.length d]) ∧ (L.length ≤ c ∧ L.length ≤ 12 ∧ M.length ≤ d ∧ M.length ≤ 12) ∧ Ints w' p (fl L) ∧ Ints w' q (fl M) ∧ Below w.heap.size w w'
set_option maxHeartbeats 8000000 in
theorem drawParcelCommon_is (v : Value) (w : World) (h : Hid (Code' w v)) :
    Calls Try.prog 52 #[v] w (DCb w) := by
  go_enter Try.func52, Try.ntmps52
  go_upto_region 3 with (first | (go_at_call 60; (with_reducible refine (open_any _ _ h).mono ?_); rintro e wo ⟨rfl, hR_wo, hb_wo, hz_wo⟩; have hs_wo := hb_wo.size; clear hz_wo) | (go_at_call 84; (with_reducible refine (split_any 0 w.heap.size _ hR_wo (by omega)).mono ?_); rintro e wb ⟨L, p, c, i, j, rfl, ⟨hc, hl, -⟩, hi, hne, hrd, hgb⟩))
  have hs_wb := hgb.size
  have HB := Lib.hid (below_gb hb_wo hgb (Nat.le_refl _) hs_wo)
  have hRl := rdr_lt hrd
  have hRo := rdr_lt hR_wo
  obtain ⟨R, hRe⟩ : ∃ R, w.heap.size = R := ⟨_, rfl⟩
  have HRe := Lib.hid hRe
  rw [hRe] at hrd hgb hRl hRo ⊢
  have hwR : w.heap.size ≤ R := by omega
  clear hRe hR_wo hb_wo
  cases hs : splOk L i j
  · have c1 := fun w h => Lib.hid (sSplit_no (p := p) (c := c) (L := L) (w := w) h hc (by omega) i j hs)
    have HI := Lib.hid (And.intro hi hne)
    clear hi hne hs hgb
    go_wp2_with (first | (go_at_call 39; (with_reducible refine ((c1 _ ?_).out).mono ?_); (focus ((exact HI.out.1); done)); rintro e wc ⟨g1, d1, g2, d2, rfl, -, hb_wc⟩; have hs_wc := hb_wc.size; (try simp at hs_wc)) | (go_at_call 61; (with_reducible refine (poly_any 35 R _ (rdr_chain hrd hb_wc) (by omega)).mono ?_); rintro e wd ⟨M, q, d, rfl, hcM, hlM, hiM, hneM, hrdM, hgbM⟩))
    refine bodyPost_ret (v := .tuple #[.slice p L.length c, .slice q M.length d]) (by simp [results, Try.results52, go_sem]) rfl ⟨L, p, c, M, q, d, rfl, ⟨hc, hl, hcM, hlM⟩, dps_keep HI.out.2 hRo (HI.out.1.below hb_wc) hgbM, hiM, below_gb (HB.out.trans (hb_wc.mono (by omega))) hgbM hwR (by omega)⟩
  · obtain ⟨I', J', rfl, rfl, hij, hj, hv, h1, h2⟩ := splOk_nat hs
    have c1 := fun w h => Lib.hid (sSplit_yes (p := p) (c := c) (L := L) (w := w) h hv hc I' J' hij hj h1 h2)
    have hlA := splA_len hij hj
    have hlB := splB_len hij hj
    have hn1 : J' - I' + 1 ≤ 12 := by omega
    have hn2 : L.length - J' + I' + 1 ≤ 12 := by omega
    generalize L.length - J' + I' + 1 = m2 at *
    generalize J' - I' + 1 = m1 at *
    generalize splA L I' J' = T at *
    generalize splB L I' J' = U at *
    have HI := Lib.hid (And.intro hi (And.intro hne (And.intro hlA hlB)))
    clear hi hne hs hij hj hv h1 h2 hgb hlA hlB
    go_wp2_with (first | ((go_at_call 39; (with_reducible refine ((c1 _ ?_).out).mono ?_); (focus ((exact HI.out.1); done)); rintro e wc ⟨g1, d1, g2, d2, rfl, hg, ho, hb_wc⟩; have hs_wc := hb_wc.size; (try simp at hs_wc)); have hrc := rdr_chain hrd hb_wc; have HO := Lib.hid (And.intro ho hb_wc); clear ho) | ((go_at_call 62; (with_reducible refine (pick_any (0 + 35) R (4) _ ?_ (by omega) (by omega) (by omega)).mono ?_); (focus ((repeat (first | with_reducible assumption | (with_reducible refine rdr_drewN ?_ _) | (with_reducible refine rdr_drew ?_) | (with_reducible refine rdr_alloc ?_ _) | (with_reducible refine rdr_setCell ?_ (by first | omega | (simp <;> omega) | simp) _) | (with_reducible refine rdr_chain ?_ (by with_reducible assumption)))); done)); rintro e wp ⟨m_wp, hm0_wp, hm1_wp, rfl, hR_wp, hg_wp, hq_wp⟩; have hs_wp := Nat.le_of_eq hq_wp; have ht_wp := Nat.le_of_eq hq_wp.symm; (try simp at hs_wp); (try simp at ht_wp); clear hq_wp)) | (go_at_call 61; (with_reducible refine (poly_any (0 + 35 + 1) R _ hR_wp (by omega)).mono ?_); rintro e wd ⟨M, q, d, rfl, hcM, hlM, hiM, hneM, hrdM, hgbM⟩))
    · obtain ⟨⟨o1, o2⟩, hb_wc⟩ := HO.out
      have k1 := o1.grown hg_wp (by omega)
      have k2 := o2.grown hg_wp (by omega)
      have e1 : m1 ≤ d1 := by obtain ⟨_, _, h, _⟩ := o1.body; exact h
      have e2 : m2 ≤ d2 := by obtain ⟨_, _, h, _⟩ := o2.body; exact h
      refine bodyPost_ret (v := .tuple #[.slice (some ⟨g1, 0, none⟩) m1 d1, .slice (some ⟨g2, 0, none⟩) m2 d2]) (by simp [results, Try.results52, go_sem]) rfl ⟨T, _, d1, U, _, d2, by rw [HI.out.2.2.1, HI.out.2.2.2], ⟨by rw [HI.out.2.2.1]; exact e1, by rw [HI.out.2.2.1]; exact hn1, by rw [HI.out.2.2.2]; exact e2, by rw [HI.out.2.2.2]; exact hn2⟩, k1.pts, k2.pts, below_gb (HB.out.trans (hb_wc.mono (by omega))) hg_wp hwR (by omega)⟩
    · obtain ⟨-, hb_wc⟩ := HO.out
      refine bodyPost_ret (v := .tuple #[.slice p L.length c, .slice q M.length d]) (by simp [results, Try.results52, go_sem]) rfl ⟨L, p, c, M, q, d, rfl, ⟨hc, hl, hcM, hlM⟩, dps_keep HI.out.2.1 hRo (dps_keep HI.out.2.1 hRo (HI.out.1.below hb_wc) hg_wp) hgbM, hiM, below_gb (below_gb (HB.out.trans (hb_wc.mono (by omega))) hg_wp hwR (by omega)) hgbM hwR (by omega)⟩
end Go.Proofs.Ytegcjdcinebleaa
