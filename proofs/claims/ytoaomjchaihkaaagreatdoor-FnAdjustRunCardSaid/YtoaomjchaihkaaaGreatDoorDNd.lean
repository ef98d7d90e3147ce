/-
  What the draw of a net that nearly closes gives: a number of nodes and a list of at most eight runs in memory of its own, by the reader and new memory alone.
-/
import Derived.Test.YtoaomjchaihkaaaGreatDoorZp
import Derived.Test.YtoaomjchaihkaaaGreatDoorNz
import Derived.Test.YtoaomjchaihkaaaGreatDoorTrz
import Derived.Deep.RegionWith
namespace Go.Proofs.YtoaomjchaihkaaaGreatDoor
open Go.RowKit
set_option linter.unusedVariables false

theorem RunsIn.below {w0 w w' : World} {R g cap : Nat} {rs : List Rn} (h : RunsIn w0 w R g cap rs) (hb : Below w.heap.size w w') : RunsIn w0 w' R g cap rs := ⟨h.1, h.2.1.below hb, gb_below h.2.2 hb⟩
theorem gb_undrew {w w' : World} {r : Option Nat} (h : w.drew.grownBy w' r) : w.grownBy w' r := ⟨h.os, h.tape, h.output, h.size, h.block⟩
def Near20 (L : List Int) : Prop := ∀ (i : Nat) (z : Int), L[i]? = some z → -20 ≤ z ∧ z ≤ 20
theorem Near20.snoc {L : List Int} (h : Near20 L) {z : Int} (h0 : -20 ≤ z) (h1 : z ≤ 20) : Near20 (L ++ [z]) := fun i y hy => by
  by_cases hi : i < L.length
  · rw [List.getElem?_append_left hi] at hy; exact h i y hy
  · rw [List.getElem?_append_right (by omega)] at hy
    have : i - L.length = 0 := by
      have := (List.getElem?_eq_some_iff.1 hy).1; simp at this; omega
    rw [this] at hy
    simp at hy; subst hy; exact ⟨h0, h1⟩
theorem fitOne_small {hs : List Int} {r : Rn} (h : Near20 hs) (h1 : 0 ≤ r.f) (h2 : r.f < hs.length) (h3 : 0 ≤ r.t) (h4 : r.t < hs.length) : -40 ≤ (fitOne hs r).s ∧ (fitOne hs r).s ≤ 40 := by
  have a := h _ _ (htAt_get (L := hs) h1 h2)
  have b := h _ _ (htAt_get (L := hs) h3 h4)
  simp only [fitOne]; omega

theorem wrap_two {s m : Int} (h : -1000 ≤ s) (h2 : s ≤ 1000) (h3 : 0 ≤ m) (h4 : m ≤ 1000) : IntKind.i64.wrap (IntKind.i64.wrap (s + 1) + m) = s + 1 + m := by
  rw [IntKind.wrap_i64, IntKind.wrap_i64]; omega
def Near49 (rs : List Rn) : Prop := ∀ (i : Nat) (r : Rn), rs[i]? = some r → -49 ≤ r.s ∧ r.s ≤ 49
theorem Near49.of {rs : List Rn} (h : ∀ (i : Nat) (r : Rn), rs[i]? = some r → -40 ≤ r.s ∧ r.s ≤ 40) : Near49 rs := fun i r hi => by have := h i r hi; omega
theorem Near49.set {rs : List Rn} (h : ∀ (i : Nat) (r : Rn), rs[i]? = some r → -40 ≤ r.s ∧ r.s ≤ 40) (j : Nat) {r' : Rn} (h1 : -49 ≤ r'.s) (h2 : r'.s ≤ 49) : Near49 (rs.set j r') := fun i r hi => by
  rw [List.getElem?_set] at hi
  split at hi
  · split at hi
    · simp at hi; subst hi; exact ⟨h1, h2⟩
    · cases hi
  · have := h i r hi; omega

set_option maxHeartbeats 8000000 in
set_option maxRecDepth 100000 in
theorem true_is (R : Nat) (w : World) (h : Rdr 0 w R) :
    Calls Tryz.prog 29 #[.pointer (some ⟨R, 0, none⟩), .int .i64 6] w fun e w' => ∃ (N : Nat) (rs : List Rn) (g cap m : Nat), e = .returned (.tuple #[.int .i64 N, .slice (some ⟨g, 0, none⟩) m cap]) ∧ rs.length = m ∧ (2 ≤ N ∧ N ≤ 6) ∧ m ≤ 8 ∧ RunsIn w w' R g cap rs ∧ Rdr 90 w' R ∧ (nOk N rs = true → Near49 rs) := by
  have hRl := rdr_lt h
  have net_at : Calls Tryz.prog 66 #[.pointer (some ⟨R, 0, none⟩), .int .i64 6] w fun e w' => ∃ (N : Nat) (rs : List Rn) (g cap m : Nat), e = .returned (.tuple #[.int .i64 N, .slice (some ⟨g, 0, none⟩) m cap]) ∧ rs.length = m ∧ (2 ≤ N ∧ N ≤ 6) ∧ m ≤ 8 ∧ RunsIn w w' R g cap rs ∧ Rdr 60 w' R :=
    (net_is R w h).mono fun e w' ⟨N, rs, g, cap, he, hN, hl, hr, hR⟩ => ⟨N, rs, g, cap, rs.length, he, rfl, hN, hl, hr, hR⟩
  go_enter Tryz.func29, Tryz.ntmps29
  go_upto_region 2 with (go_at_call 66; (with_reducible refine net_at.mono ?_); rintro e wn ⟨N, rs, g, cap, m, rfl, hm, ⟨hN2, hN6⟩, hm8, hri, hR_wn⟩; have hs_wn := hri.2.2.size; have hlg := hri.2.1.lt; have hgw := hri.1; have HI := Lib.hid (And.intro hri (And.intro hR_wn hm)); clear hri hm)
  have hgR : g ≠ R := by omega
  obtain ⟨b, hb⟩ : ∃ b, nOk N rs = b := ⟨_, rfl⟩
  have c1 := fun w p c h => Lib.hid (sValid_at (p := p) (c := c) w HI.out.2.2 h (by omega) hb)
  have HB := Lib.hid hb
  clear net_at h hb
  cases b
  · go_wp2_with ((go_at_call 67; (with_reducible refine ((c1 _ _ _ ?_).out).mono ?_); (focus ((exact (by have := HI.out.1.2.1.runs; exact this)); done)); rintro e wv ⟨rfl, hb_wv⟩; have hs_wv := hb_wv.size; (try simp at hs_wv)))
    exact bodyPost_ret (v := .tuple #[.int .i64 N, .slice (some ⟨g, 0, none⟩) m cap]) (by simp [results, Tryz.results29, go_sem]) rfl ⟨N, rs, g, cap, m, rfl, HI.out.2.2, ⟨hN2, hN6⟩, hm8, HI.out.1.below hb_wv, rdr_mono (rdr_chain HI.out.2.1 hb_wv) (by omega), fun hn => by rw [HB.out] at hn; cases hn⟩
  · go_upto_region 4 with ((go_at_call 67; (with_reducible refine ((c1 _ _ _ ?_).out).mono ?_); (focus ((exact (by have := HI.out.1.2.1.runs; exact this)); done)); rintro e wv ⟨rfl, hb_wv⟩; have hs_wv := hb_wv.size; (try simp at hs_wv)))
    have HV := Lib.hid (And.intro (HI.out.1.below hb_wv) (rdr_chain HI.out.2.1 hb_wv))
    have HM := Lib.hid HI.out.2.2
    have HE := Lib.hid (Own.empty wv 3 1)
    have hlv := HV.out.1.2.1.lt
    have hsv := HV.out.1.2.2.size
    clear c1 HI hR_wn hb_wv
    go_wp2_with fail
    go_loopw [8, 9] (fun v i wr => ∃ (q gh ch : Nat) (L : List Int), q ≤ N ∧ i = .int .i64 q ∧ v = .slice (some ⟨gh, 0, none⟩) q ch ∧ L.length = q ∧ Near20 L ∧ (w.heap.size ≤ gh ∧ gh ≠ g) ∧ Own wr gh 3 1 q ch L ∧ RunsIn w wr R g cap rs ∧ Rdr (60 + q) wr R) (fun _ i _ => N - (intOf i).toNat)
    case atStart => exact ⟨0, _, _, [], Nat.zero_le _, rfl, rfl, rfl, fun i z h => by simp at h, ⟨by omega, by omega⟩, HE.out, HV.out.1.alloc _, rdr_alloc HV.out.2 _⟩
    case round =>
      clear HE HV hlv hsv
      obtain ⟨q, gh, ch, L, hq, rfl, rfl, hLq, hnr, ⟨hgh, hghg⟩, how, hri, hrd⟩ := hrel
      have hbs := hri.2.2.size
      have hlo := how.lt
      have hlg2 := hri.2.1.lt
      have hghR : gh ≠ R := by omega
      have HO := Lib.hid (And.intro how (And.intro hri (And.intro hLq hnr)))
      clear how hri hLq hnr
      by_cases hlt : q < N
      · go_wp2_with (first | (go_at_call 68; (with_reducible refine (pick_any (60 + q) R (41) _ ?_ (by omega) (by omega) (by omega)).mono ?_); (focus ((repeat (first | with_reducible assumption | (with_reducible refine rdr_drewN ?_ _) | (with_reducible refine rdr_drew ?_) | (with_reducible refine rdr_alloc ?_ _) | (with_reducible refine rdr_setCell ?_ (by first | omega | (simp <;> omega) | simp) _) | (with_reducible refine rdr_chain ?_ (by with_reducible assumption)))); done)); rintro e wp ⟨m_wp, hm0_wp, hm1_wp, rfl, hR_wp, hg_wp, hq_wp⟩; have hs_wp := Nat.le_of_eq hq_wp; have ht_wp := Nat.le_of_eq hq_wp.symm; (try simp at hs_wp); (try simp at ht_wp); clear hq_wp) | (at_builtin; refine wp_append _ rfl _ _ 30 rfl 3 _ 1 8 Tryz.underlying30 info_int rfl (by decide) (by decide) _ q ch L rfl ((HO.out.1.grown hg_wp hghR).alloc _) _ _ _ [m_wp - 20] rfl rfl (one_cell _ _ _) (by omega) ?_; intro g' cap' w' hown hgr hloc hsz; have HN := Lib.hid (And.intro hown (And.intro hgr hloc)); clear hown hgr hloc))
        go_roundw
        case rel =>
          obtain ⟨hown, hgr, hloc⟩ := HN.out
          have hri2 := (HO.out.2.1.moved hg_wp hgR).alloc (.cells #[.int .i64 (m_wp - 20)] 3)
          have hg' : w.heap.size ≤ g' ∧ g' ≠ g := by
            rcases hloc with rfl | rfl
            · exact ⟨hgh, hghg⟩
            · simp; omega
          exact ⟨q + 1, g', cap', L ++ [m_wp - 20], by omega, by go_num, rfl, by simp [HO.out.2.2.1], HO.out.2.2.2.snoc (by omega) (by omega), hg', hown, ⟨hri2.1, hri2.2.1.grown hgr (by omega), gb_own hri2.2.2 hgr hgh⟩, rdr_mono (rdr_own (rdr_alloc hR_wp _) hgr (by omega)) (by omega)⟩
        case measure => simp [intOf]; omega
      · have e : q = N := by omega
        subst e
        go_wp2_with fail
        have HQ := Lib.hid (And.intro HO.out.1 (And.intro HO.out.2.1 (rdr_mono hrd (show 60 + q ≤ 70 by omega))))
        have HL := Lib.hid HO.out.2.2
        clear HO hlt hrd
        go_loopw [10] (fun i wr => ∃ k : Nat, k ≤ m ∧ i = .int .i64 k ∧ Own wr gh 3 1 q ch L ∧ RunsIn w wr R g cap (fitL L k rs) ∧ Rdr 70 wr R) (fun i _ => m - (intOf i).toNat)
        case atStart => exact ⟨0, Nat.zero_le _, rfl, HQ.out.1, by rw [fitL_zero]; exact HQ.out.2.1, HQ.out.2.2⟩
        case round =>
          clear HQ
          rename World => wz
          obtain ⟨k, hk, rfl, how, hri, hrd⟩ := hrel
          have hbs2 := hri.2.2.size
          have hlo2 := how.lt
          have hlg3 := hri.2.1.lt
          have HO := Lib.hid (And.intro how (And.intro hri hrd))
          by_cases hlt2 : k < m
          · obtain ⟨r, hr⟩ : ∃ r, rs[k]? = some r := ⟨_, List.getElem?_eq_getElem (by have := HM.out; omega)⟩
            obtain ⟨q0, q1, q2, q3, -⟩ := rOk_true ((nOk_true HB.out).2.2.2 k r hr)
            obtain ⟨a, ha⟩ : ∃ a : Nat, r.f = (a : Int) := ⟨r.f.toNat, by omega⟩
            obtain ⟨b, hb⟩ : ∃ b : Nat, r.t = (b : Int) := ⟨r.t.toNat, by omega⟩
            have v1 := htAt_get (L := L) q0 (by have := HL.out.1; omega)
            have v2 := htAt_get (L := L) q2 (by have := HL.out.1; omega)
            obtain ⟨x, hx⟩ : ∃ x, htAt L r.f = x := ⟨_, rfl⟩
            obtain ⟨y, hy⟩ : ∃ x, htAt L r.t = x := ⟨_, rfl⟩
            have hfit : fitOne L r = ⟨r.f, r.t, y - x, r.g⟩ := by unfold fitOne; rw [hx, hy]
            rw [hx] at v1
            rw [hy] at v2
            obtain ⟨l1, l2⟩ := HL.out.2 _ _ v1
            obtain ⟨l3, l4⟩ := HL.out.2 _ _ v2
            rw [ha, Int.toNat_natCast] at v1
            rw [hb, Int.toNat_natCast] at v2
            have haN : a < q := by omega
            have hbN : b < q := by omega
            have e4 := how.cells v1
            have e5 := how.cells v2
            obtain ⟨x0, x1, x2, x3⟩ := hri.2.1.runAt (fitL_at hr)
            rw [ha] at x0
            rw [hb] at x1
            have hfl := fitL_len L k rs (by have := HM.out; omega)
            rw [HM.out] at hfl
            have HR := Lib.hid (And.intro hr (And.intro hfit hfl))
            clear hr hfit how hri hrd v1 v2 hx hy ha hb q0 q1 q2 q3 hfl
            go_wp2_with fail
            (refine wp_region_grows_tail 21 (by kernel_rfl) (by kernel_rfl) ?_; simp only [List.take_succ_cons, List.take_zero, List.drop_succ_cons, List.drop_zero]; intro W_wg hWc_wg hWs_wg hWe_wg; (repeat (go_big_quiet_step (fail))); with_reducible refine wpQuiet_nil ?_; clear hWe_wg hWs_wg hWc_wg W_wg; intro wg hb_wg; obtain ⟨hc_wg, hf_wg⟩ := bcell hb_wg; (try simp only [World.size_drew, World.cell?_drew, World.frozen?_drew, World.heap_drewN, World.cell?_drewN, World.frozen?_drewN] at hc_wg hf_wg); have hs_wg := hb_wg.size; (try simp at hs_wg))
            have HOg := Lib.hid (And.intro (HO.out.1.below hb_wg) (And.intro (HO.out.2.1.below hb_wg) (rdr_chain HO.out.2.2 hb_wg)))
            have hf2 := HOg.out.2.1.2.1.frozen (k * 4 + 2)
            have hlg4 := HOg.out.2.1.2.1.lt
            have x2' : wg.cell? ⟨g, k * 4 + 2, none⟩ = some (.int .i64 r.s) := (hc_wg g (k * 4 + 2) hlg3).trans x2
            clear hc_wg hf_wg x0 x1 x2 x3 e4 e5
            go_wp2_with fail
            go_roundw
            case rel =>
              have h5 := HOg.out.2.1.2.1.setS (fitL_at HR.out.1) (y - x)
              rw [← HR.out.2.1, fitL_set HR.out.1] at h5
              exact ⟨k + 1, by omega, by go_num, HOg.out.1.setOther (by simpa using hghg) _, ⟨hgw, by rw [fitL_len _ _ _ (by have := HM.out; omega)] at h5 ⊢; exact h5, gb_new HOg.out.2.1.2.2 hgw _⟩, rdr_setCell (a := ⟨g, k * 4 + 2, none⟩) HOg.out.2.2 (by omega : R < g) _⟩
            case measure => simp [intOf]; omega
          · have e : k = m := by omega
            subst e
            have hfl := fitL_len L k rs (by have := HM.out; omega)
            rw [HM.out] at hfl
            have hsm : ∀ (i : Nat) (r : Rn), (fitL L k rs)[i]? = some r → -40 ≤ r.s ∧ r.s ≤ 40 := fun i r hi => by
              rw [← HM.out, fitL_all, List.getElem?_map] at hi
              obtain ⟨x, hx, rfl⟩ := Option.map_eq_some_iff.1 hi
              obtain ⟨q0, q1, q2, q3, -⟩ := rOk_true ((nOk_true HB.out).2.2.2 i x hx)
              exact fitOne_small HL.out.2 q0 (by have := HL.out.1; omega) q2 (by have := HL.out.1; omega)
            have HS := Lib.hid (And.intro hfl hsm)
            generalize fitL L k rs = fl at HO HS
            clear hfl hsm how hri hrd
            by_cases h0 : 0 < k
            · have h0' : (0 : Int) < (k : Int) := by omega
              have hrd70 := HO.out.2.2
              go_wp2_with (first | (go_at_call 68; (with_reducible refine (pick_any (70) R (2) _ ?_ (by omega) (by omega) (by omega)).mono ?_); (focus ((repeat (first | with_reducible assumption | (with_reducible refine rdr_drewN ?_ _) | (with_reducible refine rdr_drew ?_) | (with_reducible refine rdr_alloc ?_ _) | (with_reducible refine rdr_setCell ?_ (by first | omega | (simp <;> omega) | simp) _) | (with_reducible refine rdr_chain ?_ (by with_reducible assumption)))); done)); rintro e wp ⟨m_wp, hm0_wp, hm1_wp, rfl, hR_wp, hg_wp, hq_wp⟩; have hs_wp := Nat.le_of_eq hq_wp; have ht_wp := Nat.le_of_eq hq_wp.symm; (try simp at hs_wp); (try simp at ht_wp); clear hq_wp) | (go_at_call 68; (with_reducible refine (pick_any (70 + 1) R ((k : Int)) _ ?_ (by omega) (by omega) (by omega)).mono ?_); (focus ((repeat (first | with_reducible assumption | (with_reducible refine rdr_drewN ?_ _) | (with_reducible refine rdr_drew ?_) | (with_reducible refine rdr_alloc ?_ _) | (with_reducible refine rdr_setCell ?_ (by first | omega | (simp <;> omega) | simp) _) | (with_reducible refine rdr_chain ?_ (by with_reducible assumption)))); done)); rintro e wr ⟨m_wr, hm0_wr, hm1_wr, rfl, hR_wr, hg_wr, hq_wr⟩; have hs_wr := Nat.le_of_eq hq_wr; have ht_wr := Nat.le_of_eq hq_wr.symm; (try simp at hs_wr); (try simp at ht_wr); clear hq_wr))
              · have hri3 := (HO.out.2.1.moved hg_wp hgR).moved hg_wr hgR
                obtain ⟨j, hj⟩ : ∃ j : Nat, m_wr = (j : Int) := ⟨m_wr.toNat, by omega⟩
                subst hj
                obtain ⟨r, hr⟩ : ∃ r, fl[j]? = some r := ⟨_, List.getElem?_eq_getElem (by have := HS.out.1; omega)⟩
                obtain ⟨b1, b2⟩ := HS.out.2 j r hr
                obtain ⟨x0, x1, x2, x3⟩ := hri3.2.1.runAt hr
                have hf2 := hri3.2.1.frozen (j * 4 + 2)
                have hlg5 := hri3.2.1.lt
                have HX := Lib.hid (And.intro hri3 (And.intro hr hR_wr))
                clear hri3 hr x0 x1 x3 hg_wp hg_wr hR_wp HO hrd70
                have HXs := HX
                go_region_with ((go_at_call 68; (with_reducible refine (pick_any (70 + 1 + 1) R (9) _ ?_ (by omega) (by omega) (by omega)).mono ?_); (focus ((repeat (first | with_reducible assumption | (with_reducible refine rdr_drewN ?_ _) | (with_reducible refine rdr_drew ?_) | (with_reducible refine rdr_alloc ?_ _) | (with_reducible refine rdr_setCell ?_ (by first | omega | (simp <;> omega) | simp) _) | (with_reducible refine rdr_chain ?_ (by with_reducible assumption)))); done)); rintro e wu ⟨m_wu, hm0_wu, hm1_wu, rfl, hR_wu, hg_wu, hq_wu⟩; have hs_wu := Nat.le_of_eq hq_wu; have ht_wu := Nat.le_of_eq hq_wu.symm; (try simp at hs_wu); (try simp at ht_wu); clear hq_wu); have oz := (HX.out.1.moved (gb_undrew hg_wu) hgR).2.1; have fz := oz.frozen (j * 4 + 2); have xz : wu.cell? ⟨g, j * 4 + 2, none⟩ = some (.int .i64 r.s) := (oz.runAt HX.out.2.1).2.2.1; have lz := oz.lt; clear oz)
                all_goals go_wp2_with fail
                all_goals (have h5 := (HX.out.1.moved (gb_undrew hg_wu) hgR); exact bodyPost_ret (v := .tuple #[.int .i64 q, .slice (some ⟨g, 0, none⟩) k cap]) (by simp [results, Tryz.results29, go_sem]) rfl ⟨q, fl.set j ⟨r.f, r.t, _, r.g⟩, g, cap, k, rfl, by simpa using HS.out.1, ⟨hN2, hN6⟩, hm8, ⟨hgw, by simpa using h5.2.1.setS HX.out.2.1 _, gb_new h5.2.2 hgw _⟩, rdr_mono (rdr_setCell (a := ⟨g, j * 4 + 2, none⟩) hR_wu (by omega : R < g) _) (by omega), fun _ => Near49.set HS.out.2 j (by simp only; rw [wrap_two (by omega) (by omega) (by omega) (by omega)]; omega) (by simp only; rw [wrap_two (by omega) (by omega) (by omega) (by omega)]; omega)⟩)
              · exact bodyPost_ret (v := .tuple #[.int .i64 q, .slice (some ⟨g, 0, none⟩) k cap]) (by simp [results, Tryz.results29, go_sem]) rfl ⟨q, fl, g, cap, k, rfl, HS.out.1, ⟨hN2, hN6⟩, hm8, HO.out.2.1.moved hg_wp hgR, rdr_mono hR_wp (by omega), fun _ => Near49.of HS.out.2⟩
            · have h0' : ¬ (0 : Int) < (k : Int) := by omega
              go_wp2_with fail
              exact bodyPost_ret (v := .tuple #[.int .i64 q, .slice (some ⟨g, 0, none⟩) k cap]) (by simp [results, Tryz.results29, go_sem]) rfl ⟨q, fl, g, cap, k, rfl, HS.out.1, ⟨hN2, hN6⟩, hm8, HO.out.2.1, rdr_mono HO.out.2.2 (by omega), fun _ => Near49.of HS.out.2⟩
end Go.Proofs.YtoaomjchaihkaaaGreatDoor
