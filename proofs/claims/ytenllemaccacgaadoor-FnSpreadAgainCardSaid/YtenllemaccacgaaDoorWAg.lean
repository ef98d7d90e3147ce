/-
  For every code the law FnSpreadAgain returns true: impl.SpreadRun answers as the reference model does; a run whose rise is its adjusted rise has, adjusted again, the rest times the share. Condition: the package's error variable holds the error that its initialiser lays (the card ties that to the program's text, pruned to the packages that the law loads); every list of bytes is taken.
-/
import Derived.Test.YtenllemaccacgaaDoorRl
import Derived.Test.YtenllemaccacgaaDoorRd
import Derived.Test.YtenllemaccacgaaDoorEw
import Derived.Test.YtenllemaccacgaaDoorNz
import Derived.Test.YtenllemaccacgaaDoorCode
namespace Go.Proofs.YtenllemaccacgaaDoor.fnSpreadAgain
open Go.ChangeShapes Go.WideShapes Go.ChangeAt Go.RowKit
set_option linter.unusedVariables false

theorem again_eq {N n k : Nat} {rs : List Rn} {r : Rn} {a1 : Int} (hw : nWhole (N : Int) rs = true) (hN : N = n + 1) (hr : rs[k]? = some r) (hv : Quo.Val a1 1 (hT n rs r.t.toNat - hT n rs r.f.toNat) (dT n rs)) :
    rest n (rs.set k (movS (a1 - r.s) r)) (movS (a1 - r.s) r) = (a1 - r.s) * gsp N rs r ∧ dT n (rs.set k (movS (a1 - r.s) r)) = dT n rs ∧ rest n rs r = dT n rs * (a1 - r.s) := by
  subst hN
  have hn := whole_nok hw
  have hin := nOk_in hn
  have hd : dT n (rs.set k (movS (a1 - r.s) r)) = dT n rs := dT_set hr
  have hm := rise_move (d := a1 - r.s) hin hr (ok_runs hn r (List.mem_of_getElem? hr)).1 hv.2.1
  have h1 := hv.2.2
  refine ⟨?_, hd, ?_⟩
  · unfold rest
    rw [hd]
    show hT n (rs.set k (movS (a1 - r.s) r)) r.t.toNat - hT n (rs.set k (movS (a1 - r.s) r)) r.f.toNat - dT n rs * (r.s + (a1 - r.s)) = _
    rw [hm, ← Int.mul_one (hT n rs r.t.toNat - hT n rs r.f.toNat), ← h1, show r.s + (a1 - r.s) = a1 by omega, Int.mul_comm a1]
    unfold gsp
    omega
  · unfold rest
    rw [← Int.mul_one (hT n rs r.t.toNat - hT n rs r.f.toNat), ← h1, Int.mul_sub, Int.mul_comm a1]
theorem rest_valR {n : Nat} {rs : List Rn} {r : Rn} (hD : dT n rs ≠ 0) (h : rsB n rs r = true) : Quo.Val (rsT n rs r) (rsL n rs r) (rest n rs r) (dT n rs) := by
  obtain ⟨hq1, hq2⟩ : Quo.qO (hT n rs r.t.toNat - hT n rs r.f.toNat) (dT n rs) = true ∧ Quo.qO (rest n rs r) (dT n rs) = true := by
    unfold rsB at h; simpa using h
  have hT1 : rsT n rs r = Quo.T (rest n rs r) (dT n rs) := by unfold rsT vT; rw [if_pos hq1, if_pos hq2]
  have hL1 : rsL n rs r = Quo.L (rest n rs r) (dT n rs) := by unfold rsL vL; rw [if_pos hq1, if_pos hq2]
  rw [hT1, hL1]
  exact Quo.Val.of hD hq2
theorem set_ok {n : Int} {k : Nat} {rs : List Rn} {r : Rn} {a : Int} (hn : nOk n rs = true) (hr : rs[k]? = some r) (h1 : -100000 ≤ a) (h2 : a ≤ 100000) : nOk n (rs.set k ⟨r.f, r.t, a, r.g⟩) = true := by
  obtain ⟨x, y, z, d⟩ := nOk_true hn
  have h0 := rOk_true (d k r hr)
  refine nOk_of x y (by rw [List.length_set]; exact z) (fun i q hq => ?_)
  rw [List.getElem?_set] at hq
  split at hq
  · split at hq
    · cases hq
      exact rOk_of h0.1 h0.2.1 h0.2.2.1 h0.2.2.2.1 h0.2.2.2.2.1 h1 h2 h0.2.2.2.2.2.2.2.1 h0.2.2.2.2.2.2.2.2
    · cases hq
  · exact d i q hq
set_option maxHeartbeats 8000000 in
set_option maxRecDepth 100000 in
theorem walk (len cap : Nat) (p : Option Addr) (w : World) (hl : len ≤ 1048576) (h : Hid (Code' w (.slice p len cap))) (he : Hid (ErrV w)) :
    Calls Tryd.prog 3 #[.slice p len cap] w fun e w' => e = .returned (.bool true) ∧ Below w.heap.size w w' := by
  have hl' : ¬ (1048576 : Int) < (len : Int) := by omega
  go_enter Tryd.func3, Tryd.ntmps3
  go_upto_region 4 with (go_at_call 4; (with_reducible refine (drawSprRun_is _ _ h).mono ?_); rintro e wd ⟨N, m, rs, B, u, ⟨c, hmc, rfl⟩, hmm, ⟨⟨hN2, hN6⟩, hl8, hR, hb_wd⟩, hu1, hu2⟩; have HB0 := Lib.hid hb_wd; have HR0 := Lib.hid (show RunsE _ _ _ from ⟨hR, he.out.below hb_wd⟩); have HM := Lib.hid hmm; clear hR hb_wd)
  have hm8 : m ≤ 8 := by have := HM.out; omega
  clear h hl8 hmm
  by_cases hy : nWhole (N : Int) rs = true ∧ 0 ≤ u ∧ u < (m : Int)
  · obtain ⟨k, r, rfl, hk, hr⟩ := hasRun_nat (rs := rs) (k := u) ⟨hy.2.1, by have := HM.out; omega⟩
    have hw := hy.1
    have hkm : k < m := by have := HM.out; omega
    have hkm' : (k : Int) < (m : Int) := by omega
    have hn := whole_nok hw
    have hD0 := trN_pos1 hw
    have hro := ok_runs hn r (List.mem_of_getElem? hr)
    clear hy hu1 hu2
    have c1 := fun w h => Lib.hid (iSpreadRun_yes N k (some ⟨B, 0, none⟩) c m rs r w h hw HM.out hr)
    have c2 := fun w h => Lib.hid (sSpreadRun_yes N k (some ⟨B, 0, none⟩) c m rs r w h hw HM.out hr)
    obtain ⟨n, hNn⟩ : ∃ n, N = n + 1 := ⟨N - 1, by omega⟩
    have hDt : trN N rs = dT n rs := by subst hNn; exact trN_det (nOk_in hn)
    have v0 := sr_val hw hr
    have hy0 := (Quo.qv_true v0.1).1
    obtain ⟨pb, a1, a2, qb, e1, e2, c3, c4, hmain⟩ : ∃ (pb : Bool) (a1 a2 : Int) (qb : Bool) (e1 e2 : Int), (∀ w, RunsE w (some ⟨B, 0, none⟩) rs → Hid (Calls Tryd.prog 7 #[.int .i64 N, .slice (some ⟨B, 0, none⟩) m c, .int .i64 k] w fun e w' => e = .returned (.tuple #[.agg #[.int .i64 a1, .int .i64 a2], .bool pb]) ∧ Below w.heap.size w w')) ∧ (∀ w, RunsE w (some ⟨B, 0, none⟩) rs → Hid (Calls Tryd.prog 8 #[.int .i64 N, .slice (some ⟨B, 0, none⟩) m c, .int .i64 k] w fun e w' => e = .returned (.tuple #[.agg #[.int .i64 e1, .int .i64 e2], .bool qb]) ∧ Below w.heap.size w w')) ∧ (pb = true → qb = true → Quo.Val a1 a2 (hT n rs r.t.toNat - hT n rs r.f.toNat) (dT n rs) ∧ Quo.Val e1 e2 (rest n rs r) (dT n rs)) := by
      cases ha : adjOk (N : Int) rs
      · exact ⟨false, 0, 0, false, 0, 0, fun w h => Lib.hid (iRun_no N k _ c m rs w h HM.out (by omega) (fun hc => by rw [ha] at hc; cases hc.1)), fun w h => Lib.hid (iRest_no N k _ c m rs w h HM.out (by omega) (fun hc => by rw [ha] at hc; cases hc.1)), fun h => by cases h⟩
      · refine ⟨_, _, _, _, _, _, fun w h => Lib.hid (iRun_yes N n k _ c m rs r w h ha HM.out hNn hr), fun w h => Lib.hid (iRest_yes N n k _ c m rs r w h ha HM.out hNn hr), fun h1 h2 => ⟨?_, rest_valR (by omega) h2⟩⟩
        have := Quo.Val.of (N := hT n rs r.t.toNat - hT n rs r.f.toNat) (D := dT n rs) (by omega) h1
        unfold vT vL
        rw [if_pos h1, if_pos h1]
        exact this
    obtain ⟨x, hx⟩ : ∃ x, srT N rs r = x := ⟨_, rfl⟩
    obtain ⟨y, hy⟩ : ∃ x, srL N rs r = x := ⟨_, rfl⟩
    rw [hx, hy] at c1 c2 v0
    rw [hy] at hy0
    have hy1 : 0 < y := by omega
    have HW := Lib.hid (And.intro hw (And.intro hn (And.intro hr (And.intro hNn (And.intro hDt (And.intro v0 (And.intro hmain hro)))))))
    clear hw hn hr hNn hDt v0 hmain hro hx hy hD0
    go_upto_region 5 with ((go_at_call 5; (with_reducible refine ((c1 _ ?_).out).mono ?_); (focus ((exact HR0.out.runs); done)); rintro e wi ⟨rfl, hb_wi⟩; have hs_wi := hb_wi.size; (try simp at hs_wi)))
    obtain ⟨V1, Xa, hV, hX, hC, hBd, hXl⟩ := new_cell hb_wi x y 27
    rw [← hV, ← hX]
    have HB1 := Lib.hid (HB0.out.trans (hBd.mono HB0.out.size))
    have HR1 := Lib.hid (HR0.out.below hBd)
    have Ca1 := Lib.hid hC
    have hla := hC.lt
    clear hV hX hC hBd hXl hb_wi hs_wi HB0 HR0
    go_upto_region 6 with ((go_at_call 6; (with_reducible refine ((c2 _ ?_).out).mono ?_); (focus ((exact HR1.out.runs); done)); rintro e wi ⟨rfl, hb_wi⟩; have hs_wi := hb_wi.size; (try simp at hs_wi)))
    obtain ⟨V2, Xb, hV, hX, hC, hBd, hXl⟩ := new_cell hb_wi x y 27
    rw [← hV, ← hX]
    have HB2 := Lib.hid (HB1.out.trans (hBd.mono HB1.out.size))
    have HR2 := Lib.hid (HR1.out.below hBd)
    have Ca2 := Lib.hid (Ca1.out.below hBd)
    have Cb2 := Lib.hid hC
    have hlb := hC.lt
    clear hV hX hC hBd hXl hb_wi hs_wi HB1 HR1 Ca1
    obtain ⟨ap, aq, -, -⟩ := Ca2.out
    obtain ⟨bp, bq, -, -⟩ := Cb2.out
    go_upto_region 9 with ((go_at_call 7; (with_reducible refine ((c3 _ ?_).out).mono ?_); (focus ((exact HR2.out); done)); rintro e wi ⟨rfl, hb_wi⟩; have hs_wi := hb_wi.size; (try simp at hs_wi)))
    obtain ⟨V3, Xc, hV, hX, hC, hBd, hXl⟩ := new_cell hb_wi a1 a2 27
    rw [← hV, ← hX]
    have HB3 := Lib.hid (HB2.out.trans (hBd.mono HB2.out.size))
    have HR3 := Lib.hid (HR2.out.below hBd)
    have Ca3 := Lib.hid (Ca2.out.below hBd)
    have Cb3 := Lib.hid (Cb2.out.below hBd)
    have Cc3 := Lib.hid hC
    have hlc := hC.lt
    clear hV hX hC hBd hXl hb_wi hs_wi HB2 HR2 Ca2 Cb2
    clear ap aq bp bq
    go_upto_region 10 with ((go_at_call 8; (with_reducible refine ((c4 _ ?_).out).mono ?_); (focus ((exact HR3.out); done)); rintro e wi ⟨rfl, hb_wi⟩; have hs_wi := hb_wi.size; (try simp at hs_wi)))
    obtain ⟨V4, Xd, hV, hX, hC, hBd, hXl⟩ := new_cell hb_wi e1 e2 27
    rw [← hV, ← hX]
    have HB4 := Lib.hid (HB3.out.trans (hBd.mono HB3.out.size))
    have HR4 := Lib.hid (HR3.out.below hBd)
    have Ca4 := Lib.hid (Ca3.out.below hBd)
    have Cb4 := Lib.hid (Cb3.out.below hBd)
    have Cc4 := Lib.hid (Cc3.out.below hBd)
    have Cd4 := Lib.hid hC
    have hld := hC.lt
    clear hV hX hC hBd hXl hb_wi hs_wi HB3 HR3 Ca3 Cb3 Cc3
    obtain ⟨ap, aq, -, -⟩ := Ca4.out
    obtain ⟨cp, cq, -, -⟩ := Cc4.out
    cases pb
    · have HBe := HB4.out
      go_wp2_with fail
      exact bodyPost_ret (v := .bool true) (by simp [results, Tryd.results3, go_sem]) rfl ⟨rfl, HBe⟩
    · cases qb
      · have HBe := HB4.out
        go_wp2_with fail
        exact bodyPost_ret (v := .bool true) (by simp [results, Tryd.results3, go_sem]) rfl ⟨rfl, HBe⟩
      · by_cases h1 : a2 = 1
        · by_cases h2 : (100000 : Int) < a1
          · have HBe := HB4.out
            go_wp2_with fail
            exact bodyPost_ret (v := .bool true) (by simp [results, Tryd.results3, go_sem]) rfl ⟨rfl, HBe⟩
          · by_cases h3 : a1 < -100000
            · subst h1
              have HBe := HB4.out
              go_wp2_with fail
              exact bodyPost_ret (v := .bool true) (by simp [results, Tryd.results3, go_sem]) rfl ⟨rfl, HBe⟩
            · obtain ⟨hw, hn, hr, hNn, hDt, v0, hmain, hro⟩ := HW.out
              subst h1
              obtain ⟨va, ve⟩ := hmain rfl rfl
              obtain ⟨q1, q2, q3⟩ := again_eq hw hNn hr va
              have hmv : movS (a1 - r.s) r = ⟨r.f, r.t, a1, r.g⟩ := by unfold movS; rw [show r.s + (a1 - r.s) = a1 by omega]
              rw [hmv] at q1 q2
              have hk2 := (List.getElem?_eq_some_iff.1 hr).1
              have hnz := set_ok (a := a1) hn hr (by omega) (by omega)
              have hrz : (rs.set k (⟨r.f, r.t, a1, r.g⟩ : Rn))[k]? = some ⟨r.f, r.t, a1, r.g⟩ := by rw [List.getElem?_set, if_pos rfl, if_pos hk2]
              have hlz : (rs.set k (⟨r.f, r.t, a1, r.g⟩ : Rn)).length = m := by rw [List.length_set, HM.out]
              have hDne : dT n rs ≠ 0 := va.2.1
              obtain ⟨sb, f1, f2, c5, hf⟩ : ∃ (sb : Bool) (f1 f2 : Int), (∀ p c w, RunsE w p (rs.set k ⟨r.f, r.t, a1, r.g⟩) → Hid (Calls Tryd.prog 8 #[.int .i64 N, .slice p m c, .int .i64 k] w fun e w' => e = .returned (.tuple #[.agg #[.int .i64 f1, .int .i64 f2], .bool sb]) ∧ Below w.heap.size w w')) ∧ (sb = true → Quo.Val f1 f2 ((a1 - r.s) * gsp N rs r) (dT n rs)) := by
                cases ha : adjOk (N : Int) (rs.set k ⟨r.f, r.t, a1, r.g⟩)
                · exact ⟨false, 0, 0, fun p c w h => Lib.hid (iRest_no N k p c m _ w h hlz (by omega) (fun hc => by rw [ha] at hc; cases hc.1)), fun h => by cases h⟩
                · refine ⟨_, _, _, fun p c w h => Lib.hid (iRest_yes N n k p c m _ _ w h ha hlz hNn hrz), fun h2 => ?_⟩
                  have := rest_valR (by rw [q2]; exact hDne) h2
                  rw [q1, q2] at this
                  exact this
              have hti := ve.times v0
              obtain ⟨tb, g1', g2', c6, hg⟩ : ∃ (tb : Bool) (g1 g2 : Int), (∀ w, Hid (Calls Tryd.prog 9 #[.agg #[.int .i64 e1, .int .i64 e2], .agg #[.int .i64 x, .int .i64 y]] w fun e w' => e = .returned (.tuple #[.agg #[.int .i64 g1, .int .i64 g2], .bool tb]) ∧ Below w.heap.size w w')) ∧ (tb = true → Quo.Val g1 g2 (rest n rs r * gsp N rs r) (dT n rs * trN N rs)) := by
                refine ⟨_, _, _, fun w => Lib.hid (iTimes_any e1 e2 x y w), fun h => ?_⟩
                rw [hti.1] at h
                rw [(hti.2.1 h).1, (hti.2.1 h).2]
                exact Quo.Val.of (by rw [hDt]; exact Int.mul_ne_zero hDne hDne) h
              have heq : sb = true → tb = true → f1 = g1' ∧ f2 = g2' := fun h h' => (hf h).uniq2 (hg h') (by rw [q3, hDt]; grind)
              have h2' : ¬ (100000 : Int) < a1 := by omega
              have HZ := Lib.hid (And.intro hr hlz)
              clear hw hn hr hNn hDt v0 hmain hro va ve q1 q2 q3 hmv hk2 hnz hrz hlz hDne hf hti hg HW
              go_upto_region 13 with (at_builtin; refine wp_append _ rfl _ _ 23 rfl 31 _ 4 32 Tryd.underlying23 info_run rfl (by decide) (by decide) _ 0 0 [] rfl (Own.empty _ _ 4) ⟨B, 0, none⟩ m c (flat rs) rfl (by rw [flat_len, HM.out]) (runs_cells (HR4.out.runs.alloc _)) (by omega) ?_; intro g1 d1 w1 hown1 hg1 hloc1 hsz1; have HN1 := Lib.hid (show Own w1 g1 31 4 m d1 (flat rs) ∧ _ ∧ _ ∧ _ from And.intro (by simpa using hown1) (And.intro hg1 (And.intro hloc1 hsz1))); clear hown1 hg1 hloc1 hsz1; simp only [Nat.zero_add])
              have hB1 : Below V4.heap.size V4 w1 := below_gr ((Below.refl V4.heap.size V4).alloc (Nat.le_refl _) (.cells #[] 31)) HN1.out.2.1 (Nat.le_refl _) (by simp)
              have hg1 : V4.heap.size ≤ g1 := by
                rcases HN1.out.2.2.1 with e | e
                · omega
                · simp at e; omega
              have hXl4 := Cc4.out.lt
              obtain ⟨t1, t2, -, -⟩ := Cc4.out.below hB1
              have hXg : ¬ Xc = g1 := by omega
              have hgX : ¬ g1 = Xc := by omega
              have hgl1 := HN1.out.1.lt
              have hfl : (flat rs).length = m * 4 := by rw [flat_len, HM.out]
              have q2 := HN1.out.1.cells (i := k * 4 + 2) (List.getElem?_eq_getElem (by omega))
              have r2 := HN1.out.1.frozen (k * 4 + 2)
              obtain ⟨o2, ho2⟩ : ∃ y, (flat rs)[k * 4 + 2]'(by omega) = y := ⟨_, rfl⟩
              rw [ho2] at q2
              have hS := HN1.out.1.setS HZ.out.1 a1
              have hBS : Below V4.heap.size V4 (w1.setCell ⟨g1, k * 4 + 2, none⟩ (.int .i64 a1)) := hB1.setCell (p := ⟨g1, k * 4 + 2, none⟩) hg1 _
              have HS := Lib.hid (And.intro hS hBS)
              clear hS hBS hB1 HN1 ho2
              go_upto_region 14 with fail
              obtain ⟨W5, hW5⟩ : ∃ W, W = w1.setCell ⟨g1, k * 4 + 2, none⟩ (.int .i64 a1) := ⟨_, rfl⟩
              have hS := HS.out.1
              have hBS := HS.out.2
              rw [← hW5] at hS hBS ⊢
              have HRZ := Lib.hid hS.runs
              have HB5 := Lib.hid (HB4.out.trans ((hBS).mono HB4.out.size))
              have HR5 := Lib.hid (HR4.out.below (hBS))
              have Ca5 := Lib.hid (Ca4.out.below (hBS))
              have Cb5 := Lib.hid (Cb4.out.below (hBS))
              have Cc5 := Lib.hid (Cc4.out.below (hBS))
              have Cd5 := Lib.hid (Cd4.out.below (hBS))
              clear HB4 HR4 Ca4 Cb4 Cc4 Cd4 hW5 hS HS t1 t2 q2 r2 hfl hgl1 ap aq cp cq hBS
              go_upto_region 15 with ((go_at_call 8; (with_reducible refine ((c5 _ _ _ ?_).out).mono ?_); (focus ((exact ⟨HRZ.out, HR5.out.err⟩); done)); rintro e wi ⟨rfl, hb_wi⟩; have hs_wi := hb_wi.size; (try simp at hs_wi)))
              obtain ⟨V6, Xe, hV, hX, hC, hBd, hXl⟩ := new_cell hb_wi f1 f2 27
              rw [← hV, ← hX]
              have HB6 := Lib.hid (HB5.out.trans (hBd.mono HB5.out.size))
              have HR6 := Lib.hid (HR5.out.below hBd)
              have Ca6 := Lib.hid (Ca5.out.below hBd)
              have Cb6 := Lib.hid (Cb5.out.below hBd)
              have Cc6 := Lib.hid (Cc5.out.below hBd)
              have Cd6 := Lib.hid (Cd5.out.below hBd)
              have Ce6 := Lib.hid hC
              have hle := hC.lt
              clear hV hX hC hBd hXl hb_wi hs_wi HB5 HR5 Ca5 Cb5 Cc5 Cd5
              obtain ⟨ap, aq, -, -⟩ := Ca6.out
              obtain ⟨dp, dq, -, -⟩ := Cd6.out
              go_upto_region 16 with (go_at_call 9; (with_reducible refine ((c6 _).out).mono ?_); rintro e wi ⟨rfl, hb_wi⟩; have hs_wi := hb_wi.size)
              obtain ⟨V7, Xf, hV, hX, hC, hBd, hXl⟩ := new_cell hb_wi g1' g2' 27
              rw [← hV, ← hX]
              have HB7 := Lib.hid (HB6.out.trans (hBd.mono HB6.out.size))
              have HR7 := Lib.hid (HR6.out.below hBd)
              have Ca7 := Lib.hid (Ca6.out.below hBd)
              have Cb7 := Lib.hid (Cb6.out.below hBd)
              have Cc7 := Lib.hid (Cc6.out.below hBd)
              have Cd7 := Lib.hid (Cd6.out.below hBd)
              have Ce7 := Lib.hid (Ce6.out.below hBd)
              have Cf7 := Lib.hid hC
              have hlf := hC.lt
              clear hV hX hC hBd hXl hb_wi hs_wi HB6 HR6 Ca6 Cb6 Cc6 Cd6 Ce6
              clear ap aq dp dq
              obtain ⟨ep, eq, -, -⟩ := Ce7.out
              obtain ⟨fp, fq, -, -⟩ := Cf7.out
              cases sb
              · clear heq
                have HBe := HB7.out
                go_wp2_with fail
                exact bodyPost_ret (v := .bool true) (by simp [results, Tryd.results3, go_sem]) rfl ⟨rfl, HBe⟩
              · cases tb
                · clear heq
                  have HBe := HB7.out
                  go_wp2_with fail
                  exact bodyPost_ret (v := .bool true) (by simp [results, Tryd.results3, go_sem]) rfl ⟨rfl, HBe⟩
                · obtain ⟨rfl, rfl⟩ := heq rfl rfl
                  have HBe := HB7.out
                  go_wp2_with fail
                  exact bodyPost_ret (v := .bool true) (by simp [results, Tryd.results3, go_sem]) rfl ⟨rfl, HBe⟩
        · have h1b : (a2 == 1) = false := by simpa using h1
          have h1c : (a2 != 1) = true := by simpa using h1
          have HBe := HB4.out
          go_wp2_with fail
          exact bodyPost_ret (v := .bool true) (by simp [results, Tryd.results3, go_sem]) rfl ⟨rfl, HBe⟩
  · have c1 := fun w h => Lib.hid (iSpreadRun_no N u (some ⟨B, 0, none⟩) c m rs w h HM.out (by omega) hy)
    have c2 := fun w h => Lib.hid (sSpreadRun_no N u (some ⟨B, 0, none⟩) c m rs w h HM.out (by omega) hy)
    clear hy
    go_upto_region 5 with ((go_at_call 5; (with_reducible refine ((c1 _ ?_).out).mono ?_); (focus ((exact HR0.out.runs); done)); rintro e wi ⟨rfl, hb_wi⟩; have hs_wi := hb_wi.size; (try simp at hs_wi)))
    obtain ⟨V1, Xa, hV, hX, hC, hBd, hXl⟩ := new_cell hb_wi 0 0 27
    rw [← hV, ← hX]
    have HB1 := Lib.hid (HB0.out.trans (hBd.mono HB0.out.size))
    have HR1 := Lib.hid (HR0.out.below hBd)
    have Ca1 := Lib.hid hC
    have hla := hC.lt
    clear hV hX hC hBd hXl hb_wi hs_wi HB0 HR0
    go_upto_region 6 with ((go_at_call 6; (with_reducible refine ((c2 _ ?_).out).mono ?_); (focus ((exact HR1.out.runs); done)); rintro e wi ⟨rfl, hb_wi⟩; have hs_wi := hb_wi.size; (try simp at hs_wi)))
    obtain ⟨V2, Xb, hV, hX, hC, hBd, hXl⟩ := new_cell hb_wi 0 0 27
    rw [← hV, ← hX]
    have HB2 := Lib.hid (HB1.out.trans (hBd.mono HB1.out.size))
    have HR2 := Lib.hid (HR1.out.below hBd)
    have Ca2 := Lib.hid (Ca1.out.below hBd)
    have Cb2 := Lib.hid hC
    have hlb := hC.lt
    clear hV hX hC hBd hXl hb_wi hs_wi HB1 HR1 Ca1
    obtain ⟨ap, aq, -, -⟩ := Ca2.out
    obtain ⟨bp, bq, -, -⟩ := Cb2.out
    have HBe := HB2.out
    go_wp2_with fail
    exact bodyPost_ret (v := .bool true) (by simp [results, Tryd.results3, go_sem]) rfl ⟨rfl, HBe⟩

end Go.Proofs.YtenllemaccacgaaDoor.fnSpreadAgain
