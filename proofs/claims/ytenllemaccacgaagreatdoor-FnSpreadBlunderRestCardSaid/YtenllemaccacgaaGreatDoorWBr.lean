/-
  For every two codes the law FnSpreadBlunderRest returns true: impl.SpreadFree answers as the reference model does; a run whose rise alone is wrong by 12 has, where the heights fit all others, the rest that is -12 times what is free. Condition: the package's error variable holds the error that its initialiser lays (the card ties that to the program's text, pruned to the packages that the law loads); every two lists of bytes are taken.
-/
import Derived.Test.YtenllemaccacgaaGreatDoorRl
import Derived.Test.YtenllemaccacgaaGreatDoorRd
import Derived.Test.YtenllemaccacgaaGreatDoorEw
import Derived.Test.YtenllemaccacgaaGreatDoorNz
import Derived.Test.YtenllemaccacgaaGreatDoorCode
namespace Go.Proofs.YtenllemaccacgaaGreatDoor.fnSpreadBlunderRest
open Go.ChangeShapes Go.WideShapes Go.ChangeAt Go.RowKit
set_option linter.unusedVariables false

theorem rest_valR {n : Nat} {rs : List Rn} {r : Rn} (hD : dT n rs ≠ 0) (h : rsB n rs r = true) : Quo.Val (rsT n rs r) (rsL n rs r) (rest n rs r) (dT n rs) := by
  obtain ⟨hq1, hq2⟩ : Quo.qO (hT n rs r.t.toNat - hT n rs r.f.toNat) (dT n rs) = true ∧ Quo.qO (rest n rs r) (dT n rs) = true := by
    unfold rsB at h; simpa using h
  have hT1 : rsT n rs r = Quo.T (rest n rs r) (dT n rs) := by unfold rsT vT; rw [if_pos hq1, if_pos hq2]
  have hL1 : rsL n rs r = Quo.L (rest n rs r) (dT n rs) := by unfold rsL vL; rw [if_pos hq1, if_pos hq2]
  rw [hT1, hL1]
  exact Quo.Val.of hD hq2
theorem ht_low {G : List Int} (h : Low G) (x : Int) : 0 ≤ htAt G x ∧ htAt G x < 50 := by
  unfold htAt
  cases e : G[x.toNat]? with
  | none => simp
  | some z => exact h _ _ e
theorem fit_nOk {n : Int} {rs : List Rn} {G : List Int} (hn : nOk n rs = true) (hG : Low G) : nOk n (rs.map (fitOne G)) = true := by
  obtain ⟨x, y, z, d⟩ := nOk_true hn
  refine nOk_of x y (by rw [List.length_map]; exact z) (fun i q hq => ?_)
  rw [List.getElem?_map] at hq
  cases e : rs[i]? with
  | none => rw [e] at hq; cases hq
  | some r =>
    rw [e] at hq
    cases hq
    have h0 := rOk_true (d i r e)
    have h1 := ht_low hG r.t
    have h2 := ht_low hG r.f
    exact rOk_of h0.1 h0.2.1 h0.2.2.1 h0.2.2.2.1 h0.2.2.2.2.1 (by show _ ≤ htAt G r.t - htAt G r.f; omega) (by show htAt G r.t - htAt G r.f ≤ _; omega) h0.2.2.2.2.2.2.2.1 h0.2.2.2.2.2.2.2.2
theorem fit_shape (G : List Int) (rs : List Rn) : Shp rs (rs.map (fitOne G)) := by
  unfold Shp
  rw [List.map_map]
  rfl
theorem fit_restB {n : Nat} {rs : List Rn} (hin : InN (n + 1) rs) {x : Nat → Int} (h0 : x 0 = 0) (h : ∀ r ∈ rs, x r.t.toNat - x r.f.toNat = r.s) {r : Rn} (hr : r ∈ rs) : rest n rs r = 0 := by
  have hs := fits_solves hin x h0 h
  have hi := hin r hr
  have e1 := hs.all h0 (j := r.t.toNat) (by omega)
  have e2 := hs.all h0 (j := r.f.toNat) (by omega)
  have e3 := h r hr
  unfold rest
  rw [← e3, Int.mul_sub, e1, e2]
  omega
/-- what is wrong by 12 where all else fits -/
theorem wrong_rest {N n k : Nat} {rs : List Rn} {r : Rn} {G : List Int} (hw : nWhole (N : Int) rs = true) (hN : N = n + 1) (hr : rs[k]? = some r) (hG : Low G) :
    dT n ((rs.map (fitOne G)).set k (movS 12 (fitOne G r))) = trN N rs ∧ rest n ((rs.map (fitOne G)).set k (movS 12 (fitOne G r))) (movS 12 (fitOne G r)) = -12 * (trN N rs - gsp N rs r) := by
  subst hN
  have hn := whole_nok hw
  have hn0 := fit_nOk hn hG
  have hin := nOk_in hn
  have hin0 := nOk_in hn0
  have hr0 : (rs.map (fitOne G))[k]? = some (fitOne G r) := by rw [List.getElem?_map, hr]; rfl
  have hsh := fit_shape G rs
  have hN2 := (nOk_true hn).1
  obtain ⟨M, rfl⟩ : ∃ M, n = M + 1 := ⟨n - 1, by omega⟩
  have hD0 : dT (M + 1) (rs.map (fitOne G)) = trN (M + 1 + 1) rs := by rw [← trN_det hin0, ← hsh.trees hin hin0]
  have hD : dT (M + 1) (rs.map (fitOne G)) ≠ 0 := by have := trN_pos1 hw; omega
  obtain ⟨e1, e2, e3, e4, e5⟩ := run_ends hn hr
  have hsp : spN (M + 1 + 1) (rs.map (fitOne G)) r.f.toNat r.t.toNat = spN (M + 1 + 1) rs r.f.toNat r.t.toNat := (hsh.spread hin hin0 e1 e2).symm
  have hm := rise_move (d := 12) hin0 hr0 (ok_runs hn r (List.mem_of_getElem? hr)).1 hD
  have hf := fit_restB hin0 (x := fun i => htAt G i - htAt G 0) (by simp) (fun q hq => by
    have := hin0 q hq
    obtain ⟨q0, hq0, rfl⟩ := List.mem_map.1 hq
    have a1 : ((fitOne G q0).t.toNat : Int) = q0.t := by show (q0.t.toNat : Int) = q0.t; have : 0 ≤ q0.t := this.2.2.1; omega
    have a2 : ((fitOne G q0).f.toNat : Int) = q0.f := by show (q0.f.toNat : Int) = q0.f; have : 0 ≤ q0.f := this.1; omega
    show htAt G ((fitOne G q0).t.toNat : Int) - htAt G 0 - (htAt G ((fitOne G q0).f.toNat : Int) - htAt G 0) = htAt G q0.t - htAt G q0.f
    rw [a1, a2]; omega) (List.mem_of_getElem? hr0)
  have hdz : dT (M + 1) ((rs.map (fitOne G)).set k (movS 12 (fitOne G r))) = trN (M + 1 + 1) rs := by rw [dT_set hr0, hD0]
  refine ⟨hdz, ?_⟩
  unfold rest at hf ⊢
  rw [hdz]
  rw [hD0] at hf
  show hT (M + 1) ((rs.map (fitOne G)).set k (movS 12 (fitOne G r))) (fitOne G r).t.toNat - hT (M + 1) ((rs.map (fitOne G)).set k (movS 12 (fitOne G r))) (fitOne G r).f.toNat - trN (M + 1 + 1) rs * ((fitOne G r).s + 12) = _
  rw [hm, Int.mul_add]
  have hg : (fitOne G r).g * spN (M + 1 + 1) (rs.map (fitOne G)) (fitOne G r).f.toNat (fitOne G r).t.toNat = gsp (M + 1 + 1) rs r := by
    show r.g * spN (M + 1 + 1) (rs.map (fitOne G)) r.f.toNat r.t.toNat = _
    rw [hsp]; rfl
  rw [hg]
  omega
set_option maxHeartbeats 8000000 in
set_option maxRecDepth 100000 in
theorem walk (len cap : Nat) (p : Option Addr) (len2 cap2 : Nat) (p2 : Option Addr) (w : World) (hl : len ≤ 1048576) (hl2 : len2 ≤ 1048576) (h : Hid (Code' w (.slice p len cap))) (h2 : Hid (Code' w (.slice p2 len2 cap2))) (he : Hid (ErrV w)) :
    Calls Tryz.prog 3 #[.slice p len cap, .slice p2 len2 cap2] w fun e w' => e = .returned (.bool true) ∧ Below w.heap.size w w' := by
  have hl' : ¬ (1048576 : Int) < (len : Int) := by omega
  have hl2' : ¬ (1048576 : Int) < (len2 : Int) := by omega
  clear h2
  go_enter Tryz.func3, Tryz.ntmps3
  go_upto_region 4 with (go_at_call 6; (with_reducible refine (drawSprFree_is _ _ h).mono ?_); rintro e wd ⟨N, m, rs, B, u, ⟨c, hmc, rfl⟩, hmm, ⟨⟨hN2, hN6⟩, hl8, hR, hb_wd⟩, hu1, hu2⟩; have HB0 := Lib.hid hb_wd; have HR0 := Lib.hid (show RunsE _ _ _ from ⟨hR, he.out.below hb_wd⟩); have HM := Lib.hid hmm; clear hR hb_wd)
  have hm8 : m ≤ 8 := by have := HM.out; omega
  clear h hl8 hmm
  by_cases hy : nWhole (N : Int) rs = true ∧ 0 ≤ u ∧ u < (m : Int)
  · obtain ⟨k, r, rfl, hk, hr⟩ := hasRun_nat (rs := rs) (k := u) ⟨hy.2.1, by have := HM.out; omega⟩
    have hw := hy.1
    have hkm : k < m := by have := HM.out; omega
    have hkm' : (k : Int) < (m : Int) := by omega
    have hn := whole_nok hw
    have hD0 := trN_pos1 hw
    have hro := ok_runs hn r (List.mem_of_getElem? hr)
    clear hy hu1 hu2
    have c1 := fun w h => Lib.hid (iSpreadFree_yes N k (some ⟨B, 0, none⟩) c m rs r w h hw HM.out hr)
    have c2 := fun w h => Lib.hid (sSpreadFree_yes N k (some ⟨B, 0, none⟩) c m rs r w h hw HM.out hr)
    obtain ⟨n, hNn⟩ : ∃ n, N = n + 1 := ⟨N - 1, by omega⟩
    have v0 := sf_val hw hr
    obtain ⟨x, hx⟩ : ∃ x, sfT N rs r = x := ⟨_, rfl⟩
    obtain ⟨y, hy⟩ : ∃ x, sfL N rs r = x := ⟨_, rfl⟩
    rw [hx, hy] at c1 c2 v0
    have c3 := fun w => Lib.hid (some_is N len2 w hN6 hl2)
    have c4 := fun w => Lib.hid (whole_s (-12) w)
    have HW := Lib.hid (And.intro hw (And.intro hn (And.intro hr (And.intro hNn (And.intro hD0 v0)))))
    clear hw hn hr hNn hD0 v0 hro hx hy
    go_upto_region 5 with ((go_at_call 7; (with_reducible refine ((c1 _ ?_).out).mono ?_); (focus ((exact HR0.out.runs); done)); rintro e wi ⟨rfl, hb_wi⟩; have hs_wi := hb_wi.size; (try simp at hs_wi)))
    obtain ⟨V1, Xa, hV, hX, hC, hBd, hXl⟩ := new_cell hb_wi x y 27
    rw [← hV, ← hX]
    have HB1 := Lib.hid (HB0.out.trans (hBd.mono HB0.out.size))
    have HR1 := Lib.hid (HR0.out.below hBd)
    have Ca1 := Lib.hid hC
    have hla := hC.lt
    clear hV hX hC hBd hXl hb_wi hs_wi HB0 HR0
    go_upto_region 6 with ((go_at_call 8; (with_reducible refine ((c2 _ ?_).out).mono ?_); (focus ((exact HR1.out.runs); done)); rintro e wi ⟨rfl, hb_wi⟩; have hs_wi := hb_wi.size; (try simp at hs_wi)))
    obtain ⟨V2, Xb, hV, hX, hC, hBd, hXl⟩ := new_cell hb_wi x y 27
    rw [← hV, ← hX]
    have HB2 := Lib.hid (HB1.out.trans (hBd.mono HB1.out.size))
    have HR2 := Lib.hid (HR1.out.below hBd)
    have Ca2 := Lib.hid (Ca1.out.below hBd)
    have Cb2 := Lib.hid hC
    have hlb := hC.lt
    clear hV hX hC hBd hXl hb_wi hs_wi HB1 HR1 Ca1
    obtain ⟨ap, aq, -, -⟩ := Ca2.out
    obtain ⟨bp, bq, -, -⟩ := Cb2.out
    go_upto_region 9 with (first
      | (go_at_call 10; (with_reducible refine ((c3 _).out).mono ?_); rintro e wg ⟨gg, cg, G, rfl, hGl, hGlow, hgg, og, hb_wg⟩; have hs_wg := hb_wg.size; (try simp at hs_wg))
      | (go_at_call 9; (with_reducible refine (fit_is B 0 c m (some ⟨gg, 0, none⟩) cg N rs G wg (HR2.out.runs.below hb_wg) og.ints HM.out (by omega) HW.out.2.1 hGl hGlow).mono ?_); rintro e wf ⟨gf, cf, rfl, hgf, of, hb_wf⟩; have hs_wf := hb_wf.size; (try simp at hs_wf)))
    have hBf : Below V2.heap.size V2 wf := hb_wg.trans (hb_wf.mono hs_wg)
    have HOF := Lib.hid of
    have HGL := Lib.hid hGlow
    have hgf2 : V2.heap.size ≤ gf := by omega
    have hrz : (rs.map (fitOne G))[k]? = some (fitOne G r) := by rw [List.getElem?_map, HW.out.2.2.1]; rfl
    obtain ⟨wd1, wd2⟩ := wrong_rest HW.out.1 HW.out.2.2.2.1 HW.out.2.2.1 hGlow
    have hn0 := fit_nOk HW.out.2.1 hGlow
    have hst := ht_low hGlow r.t
    have hsf := ht_low hGlow r.f
    obtain ⟨rz, hrze⟩ : ∃ rz, fitOne G r = rz := ⟨_, rfl⟩
    have hrs : -50 < rz.s ∧ rz.s < 50 := by rw [← hrze]; show -50 < htAt G r.t - htAt G r.f ∧ htAt G r.t - htAt G r.f < 50; omega
    obtain ⟨zs, hzs⟩ : ∃ zs, rs.map (fitOne G) = zs := ⟨_, rfl⟩
    have hzl : zs.length = m := by rw [← hzs, List.length_map, HM.out]
    rw [hrze, hzs] at hrz wd1 wd2
    rw [hzs] at hn0
    have hk2 := (List.getElem?_eq_some_iff.1 hrz).1
    have hrz2 : (zs.set k (movS 12 rz))[k]? = some (movS 12 rz) := by rw [List.getElem?_set, if_pos rfl, if_pos hk2]
    have hlz : (zs.set k (movS 12 rz)).length = m := by rw [List.length_set, hzl]
    have hDne : trN N rs ≠ 0 := by have := HW.out.2.2.2.2.1; omega
    obtain ⟨pb, f1, f2, c5, hf⟩ : ∃ (pb : Bool) (f1 f2 : Int), (∀ p c w, RunsE w p (zs.set k (movS 12 rz)) → Hid (Calls Tryz.prog 11 #[.int .i64 N, .slice p m c, .int .i64 k] w fun e w' => e = .returned (.tuple #[.agg #[.int .i64 f1, .int .i64 f2], .bool pb]) ∧ Below w.heap.size w w')) ∧ (pb = true → Quo.Val f1 f2 (-12 * (trN N rs - gsp N rs r)) (trN N rs)) := by
      cases ha : adjOk (N : Int) (zs.set k (movS 12 rz))
      · exact ⟨false, 0, 0, fun p c w h => Lib.hid (iRest_no N k p c m _ w h hlz (by omega) (fun hc => by rw [ha] at hc; cases hc.1)), fun h => by cases h⟩
      · refine ⟨_, _, _, fun p c w h => Lib.hid (iRest_yes N n k p c m _ _ w h ha hlz HW.out.2.2.2.1 hrz2), fun h2 => ?_⟩
        have := rest_valR (by rw [wd1]; exact hDne) h2
        rw [wd1, wd2] at this
        exact this
    have v12 := Quo.Val.whole (x := -12) (D := 1) (by omega) (by omega) (by omega)
    have hti := HW.out.2.2.2.2.2.times v12
    have hcr : (trN N rs - gsp N rs r) * (-12 * 1) * trN N rs = -12 * (trN N rs - gsp N rs r) * (trN N rs * 1) := by grind
    have hqq := Quo.qO_val (Int.mul_ne_zero hDne (by omega : (1 : Int) ≠ 0)) hDne hcr
    obtain ⟨qb, g1, g2, c6, hg⟩ : ∃ (qb : Bool) (g1 g2 : Int), (∀ w, Hid (Calls Tryz.prog 12 #[.agg #[.int .i64 x, .int .i64 y], .agg #[.int .i64 (-12), .int .i64 1]] w fun e w' => e = .returned (.tuple #[.agg #[.int .i64 g1, .int .i64 g2], .bool qb]) ∧ Below w.heap.size w w')) ∧ (pb = true → qb = true ∧ f1 = g1 ∧ f2 = g2) := by
      refine ⟨_, _, _, fun w => Lib.hid (iTimes_any x y (-12) 1 w), fun h => ?_⟩
      have hv := hf h
      have hq : Quo.qO ((trN N rs - gsp N rs r) * (-12 * 1)) (trN N rs * 1) = true := hqq.trans hv.ok
      rw [hti.1, (hti.2.1 hq).1, (hti.2.1 hq).2]
      exact ⟨hq, hv.uniq2 (Quo.Val.of (Int.mul_ne_zero hDne (by omega : (1 : Int) ≠ 0)) hq) hcr.symm⟩
    have hmv : movS 12 rz = ⟨rz.f, rz.t, rz.s + 12, rz.g⟩ := rfl
    have wr12 : IntKind.i64.wrap (rz.s + 12) = rz.s + 12 := by rw [IntKind.wrap_i64]; omega
    have hgf' : V2.heap.size ≤ gf := by omega
    have hofl := of.lt
    have hfl : (flat zs).length = m * 4 := by rw [flat_len, hzl]
    rw [hzs] at of
    have q2 := of.cells (i := k * 4 + 2) (flat_at hrz).2.2.1
    have r2 := of.frozen (k * 4 + 2)
    have hS := of.setS hrz (rz.s + 12)
    rw [← hmv] at hS
    have hBS : Below V2.heap.size V2 (wf.setCell ⟨gf, k * 4 + 2, none⟩ (.int .i64 (rz.s + 12))) := hBf.setCell (p := ⟨gf, k * 4 + 2, none⟩) hgf' _
    have HS := Lib.hid (And.intro hS hBS)
    have HK := Lib.hid hg
    clear hS hBS hBf of HOF HGL hGlow hrz wd1 wd2 hn0 hst hsf hrze hzs hk2 hrz2 hlz hDne hf v12 hti hcr hqq hg hmv hb_wg hb_wf og HW c1 c2 c3
    go_upto_region 10 with fail
    obtain ⟨W5, hW5⟩ : ∃ W, W = wf.setCell ⟨gf, k * 4 + 2, none⟩ (.int .i64 (rz.s + 12)) := ⟨_, rfl⟩
    have hS := HS.out.1
    have hBS := HS.out.2
    rw [← hW5] at hS hBS ⊢
    have HRZ := Lib.hid hS.runs
    have HB3 := Lib.hid (HB2.out.trans ((hBS).mono HB2.out.size))
    have HR3 := Lib.hid (HR2.out.below (hBS))
    have Ca3 := Lib.hid (Ca2.out.below (hBS))
    have Cb3 := Lib.hid (Cb2.out.below (hBS))
    clear HB2 HR2 Ca2 Cb2 hW5 hS HS q2 r2 hfl hBS ap aq bp bq
    go_upto_region 11 with ((go_at_call 11; (with_reducible refine ((c5 _ _ _ ?_).out).mono ?_); (focus ((exact ⟨HRZ.out, HR3.out.err⟩); done)); rintro e wi ⟨rfl, hb_wi⟩; have hs_wi := hb_wi.size; (try simp at hs_wi)))
    obtain ⟨V4, Xe, hV, hX, hC, hBd, hXl⟩ := new_cell hb_wi f1 f2 27
    rw [← hV, ← hX]
    have HB4 := Lib.hid (HB3.out.trans (hBd.mono HB3.out.size))
    have HR4 := Lib.hid (HR3.out.below hBd)
    have Ca4 := Lib.hid (Ca3.out.below hBd)
    have Cb4 := Lib.hid (Cb3.out.below hBd)
    have Ce4 := Lib.hid hC
    have hle := hC.lt
    clear hV hX hC hBd hXl hb_wi hs_wi HB3 HR3 Ca3 Cb3
    obtain ⟨ap, aq, -, -⟩ := Ca4.out
    have hVa := World.block_lt_of_cell? V4 _ ap
    apply ways_cellR (x := g1) (y := g2) (V := V4)
    · intro REST
      go_region_held3 (fun W => W.cell? ⟨Xa, 0, none⟩ = some (.int .i64 x) ∧ W.cell? ⟨Xa, 1, none⟩ = some (.int .i64 y)) (first | (go_keep; done) | (refine ⟨?_, ?_⟩ <;> (first | ((with_reducible refine cell_below_keep (by with_reducible assumption) ?_); with_reducible assumption) | ((with_reducible refine cell_set_keep _ ?_ ?_); (focus (dsimp only; omega)); (with_reducible refine cell_set_keep _ ?_ ?_); (focus (dsimp only; omega)); with_reducible assumption)))) (first
        | (go_at_call 13; (with_reducible refine ((c4 _).out).mono ?_); rintro e w1 ⟨rfl, hb_w1⟩; (first | (have hV1 : Below V4.heap.size V4 w1 := (below_drew (Below.refl _ _)).trans hb_w1; have a0 := cell_below_keep hV1 ap; have b0 := World.block_lt_of_cell? _ _ a0; have a1 := cell_below_keep hV1 aq; have b1 := World.block_lt_of_cell? _ _ a1) | (have hV1 : Below V4.heap.size V4 w1 := ((below_drew (Below.refl V4.heap.size V4)).alloc (Nat.le_refl _) (.cells #[.int .i64 0, .int .i64 0] 27)).trans (hb_w1.mono (by simp)); have a0 := cell_below_keep hV1 ap; have b0 := World.block_lt_of_cell? _ _ a0; have a1 := cell_below_keep hV1 aq; have b1 := World.block_lt_of_cell? _ _ a1; obtain ⟨y1, y2, y3, y4⟩ := (show Cell2 w1 V4.heap.size 0 0 from (Cell2.new V4.drew 0 0 27).below hb_w1))))
        | (go_at_call 12; (with_reducible refine ((c6 _).out).mono ?_); rintro e w2 ⟨rfl, hb_w2⟩; (first | (have hY := (show Cell2 w1 V4.heap.size 0 0 from ⟨y1, y2, y3, y4⟩).below hb_w2; have hV2 : Below V4.heap.size V4 w2 := hV1.trans (hb_w2.mono hV1.size); have a0 := cell_below_keep hV2 ap; have b0 := World.block_lt_of_cell? _ _ a0; have a1 := cell_below_keep hV2 aq; have b1 := World.block_lt_of_cell? _ _ a1; obtain ⟨y1, y2, y3, y4⟩ := hY) | (have hV2 : Below V4.heap.size V4 w2 := hV1.trans (hb_w2.mono hV1.size); have a0 := cell_below_keep hV2 ap; have b0 := World.block_lt_of_cell? _ _ a0; have a1 := cell_below_keep hV2 aq; have b1 := World.block_lt_of_cell? _ _ a1) | (have hV2 : Below V4.heap.size V4 w2 := (hV1.alloc hV1.size (.cells #[.int .i64 0, .int .i64 0] 27)).trans (hb_w2.mono (by have := hV1.size; simp; omega)); have a0 := cell_below_keep hV2 ap; have b0 := World.block_lt_of_cell? _ _ a0; have a1 := cell_below_keep hV2 aq; have b1 := World.block_lt_of_cell? _ _ a1; obtain ⟨y1, y2, y3, y4⟩ := (Cell2.new w1 0 0 27).below hb_w2))))
      all_goals
        first
        | (have hYA := Cell2.new w2 g1 g2 27; have hBA : Below V4.heap.size V4 (w2.alloc (.cells #[.int .i64 g1, .int .i64 g2] 27)) := hV2.alloc hV2.size _; obtain ⟨Y, hYe⟩ : ∃ Y, w2.heap.size = Y := ⟨_, rfl⟩; rw [hYe] at hYA ⊢; refine gen_exitR (fun W => Cell2 W Y g1 g2 ∧ Below V4.heap.size V4 W) ⟨hYA, hBA⟩ (fun W hW => ?_); exact REST Y W hW.1 (by have := hV2.size; omega) hW.2)
        | (have hYA := (show Cell2 w2 V4.heap.size 0 0 from ⟨y1, y2, y3, y4⟩).set g1 g2; have hBA : Below V4.heap.size V4 ((w2.setCell ⟨V4.heap.size, 0, none⟩ (.int .i64 g1)).setCell ⟨V4.heap.size, 1, none⟩ (.int .i64 g2)) := (hV2.setCell (Nat.le_refl _) _).setCell (Nat.le_refl _) _; refine gen_exitR (fun W => Cell2 W V4.heap.size g1 g2 ∧ Below V4.heap.size V4 W) ⟨hYA, hBA⟩ (fun W hW => ?_); obtain ⟨hW1, hW2⟩ := hW; obtain ⟨Y, hYe⟩ : ∃ Y, V4.heap.size = Y := ⟨_, rfl⟩; rw [hYe] at hW1 ⊢; exact REST Y W hW1 (by have := hV1.size; omega) hW2)
        | (have hYA := (show Cell2 w2 w1.heap.size 0 0 from ⟨y1, y2, y3, y4⟩).set g1 g2; have hBA : Below V4.heap.size V4 ((w2.setCell ⟨w1.heap.size, 0, none⟩ (.int .i64 g1)).setCell ⟨w1.heap.size, 1, none⟩ (.int .i64 g2)) := (hV2.setCell (hV1.size) _).setCell (hV1.size) _; refine gen_exitR (fun W => Cell2 W w1.heap.size g1 g2 ∧ Below V4.heap.size V4 W) ⟨hYA, hBA⟩ (fun W hW => ?_); obtain ⟨hW1, hW2⟩ := hW; obtain ⟨Y, hYe⟩ : ∃ Y, w1.heap.size = Y := ⟨_, rfl⟩; rw [hYe] at hW1 ⊢; exact REST Y W hW1 (by have := hV1.size; omega) hW2)
    · intro Xf W hC hRa hBW
      have HWC := Lib.hid hC
      obtain ⟨fp, fq, -, -⟩ := hC
      have HB5 := Lib.hid (HB4.out.trans ((hBW).mono HB4.out.size))
      have HR5 := Lib.hid (HR4.out.below (hBW))
      have Ca5 := Lib.hid (Ca4.out.below (hBW))
      have Cb5 := Lib.hid (Cb4.out.below (hBW))
      have Ce5 := Lib.hid (Ce4.out.below (hBW))
      clear HB4 HR4 Ca4 Cb4 Ce4 hBW ap aq
      obtain ⟨ep, eq, -, -⟩ := Ce5.out
      cases pb
      · have HBe := HB5.out
        go_wp2_with fail
        exact bodyPost_ret (v := .bool true) (by simp [results, Tryz.results3, go_sem]) rfl ⟨rfl, HBe⟩
      · obtain ⟨rfl, rfl, rfl⟩ := HK.out rfl
        have HBe := HB5.out
        go_wp2_with fail
        exact bodyPost_ret (v := .bool true) (by simp [results, Tryz.results3, go_sem]) rfl ⟨rfl, HBe⟩
  · have c1 := fun w h => Lib.hid (iSpreadFree_no N u (some ⟨B, 0, none⟩) c m rs w h HM.out (by omega) hy)
    have c2 := fun w h => Lib.hid (sSpreadFree_no N u (some ⟨B, 0, none⟩) c m rs w h HM.out (by omega) hy)
    clear hy
    go_upto_region 5 with ((go_at_call 7; (with_reducible refine ((c1 _ ?_).out).mono ?_); (focus ((exact HR0.out.runs); done)); rintro e wi ⟨rfl, hb_wi⟩; have hs_wi := hb_wi.size; (try simp at hs_wi)))
    obtain ⟨V1, Xa, hV, hX, hC, hBd, hXl⟩ := new_cell hb_wi 0 0 27
    rw [← hV, ← hX]
    have HB1 := Lib.hid (HB0.out.trans (hBd.mono HB0.out.size))
    have HR1 := Lib.hid (HR0.out.below hBd)
    have Ca1 := Lib.hid hC
    have hla := hC.lt
    clear hV hX hC hBd hXl hb_wi hs_wi HB0 HR0
    go_upto_region 6 with ((go_at_call 8; (with_reducible refine ((c2 _ ?_).out).mono ?_); (focus ((exact HR1.out.runs); done)); rintro e wi ⟨rfl, hb_wi⟩; have hs_wi := hb_wi.size; (try simp at hs_wi)))
    obtain ⟨V2, Xb, hV, hX, hC, hBd, hXl⟩ := new_cell hb_wi 0 0 27
    rw [← hV, ← hX]
    have HB2 := Lib.hid (HB1.out.trans (hBd.mono HB1.out.size))
    have HR2 := Lib.hid (HR1.out.below hBd)
    have Ca2 := Lib.hid (Ca1.out.below hBd)
    have Cb2 := Lib.hid hC
    have hlb := hC.lt
    clear hV hX hC hBd hXl hb_wi hs_wi HB1 HR1 Ca1
    obtain ⟨ap, aq, -, -⟩ := Ca2.out
    obtain ⟨bp, bq, -, -⟩ := Cb2.out
    have HBe := HB2.out
    go_wp2_with fail
    exact bodyPost_ret (v := .bool true) (by simp [results, Tryz.results3, go_sem]) rfl ⟨rfl, HBe⟩

end Go.Proofs.YtenllemaccacgaaGreatDoor.fnSpreadBlunderRest
