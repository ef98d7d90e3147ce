/-
  For every two codes the law FnAdjustFit returns true: impl.AdjustHeights answers as the reference model does; where the net closes the adjusted heights are those of TreeHeights and AdjustSum is 0; adding to all rises the difference of what is laid on their ends adds that to the adjusted heights. Condition: the package's error variable holds the error that its initialiser lays (the card ties that to the program's text, pruned to the packages that the law loads); every list of bytes is taken.
-/
import Derived.Test.YtoaomjchaihkaaaGreatDoorCards
import Derived.Test.YtoaomjchaihkaaaGreatDoorEd
import Derived.Test.YtoaomjchaihkaaaGreatDoorEl
import Derived.Test.YtoaomjchaihkaaaGreatDoorDNs
import Derived.Test.YtoaomjchaihkaaaGreatDoorVz
import Derived.Test.YtoaomjchaihkaaaGreatDoorEyb
import Derived.Test.YtoaomjchaihkaaaGreatDoorCode
namespace Go.Proofs.YtoaomjchaihkaaaGreatDoor.fnAdjustFit
open Go.ChangeShapes Go.WideShapes Go.ChangeAt Go.RowKit
set_option linter.unusedVariables false

theorem gen_exitX {Q : Exit → Act → World → Prop} {x : Exit} {a : Act} {W : World} (p : World → Prop) (h : p W) (k : ∀ W', p W' → Q x a W') : Q x a W := k W h
theorem adj_some {N m : Nat} {rs : List Rn} (h : adjOk (N : Int) rs = true) (hN : 2 ≤ N) (hm : rs.length = m) : 1 ≤ m := by
  rcases Nat.eq_zero_or_pos m with h0 | h0
  · exfalso
    obtain rfl : rs = [] := List.length_eq_zero_iff.1 (by omega)
    obtain ⟨hw, -⟩ := adj_true (n := N - 1) h (by omega)
    have hn := (whole_iff.1 hw).1
    have := (whole_spn hn).1 hw (fun i => i ≠ 0) (by simp) (fun s _ hs => by simp [S0] at hs; simp [hs]) 1 (by omega)
    exact this (by decide)
  · exact h0
/-- where the net closes, the first tree's heights are the adjusted ones -/
theorem fit_all {N n : Nat} {rs : List Rn} {L : List Int} (ha : adjOk (N : Int) rs = true) (hNn : N = n + 1) (hb : closes N rs = true) (hL : IsHt N (sub rs (firstT N rs rs.length)) L) :
    (∀ j, j < N → Quo.T (hT n rs j) (dT n rs) = htAt L j ∧ Quo.L (hT n rs j) (dT n rs) = 1) ∧ smV n rs = some (0, 1) := by
  obtain ⟨hw, -⟩ := adj_true ha hNn
  have hn := (whole_iff.1 hw).1
  have hD : dT n rs ≠ 0 := by
    have := dT_pos (n := n) (rs := rs) (by rw [← hNn]; exact hw) (by rw [← hNn]; exact hn)
    omega
  have hin : InN (n + 1) rs := by rw [← hNn]; exact nOk_in hn
  have hf := (errs_zero hw hL).1 (closes_true.1 hb).2
  have hx : ∀ r ∈ rs, (fun i : Nat => htAt L (i : Int)) r.t.toNat - (fun i : Nat => htAt L (i : Int)) r.f.toNat = r.s := fun r hr => by
    have := hin r hr
    have e := hf r hr
    show htAt L ((r.t.toNat : Nat) : Int) - htAt L ((r.f.toNat : Nat) : Int) = r.s
    rw [show ((r.t.toNat : Nat) : Int) = r.t by omega, show ((r.f.toNat : Nat) : Int) = r.f by omega]
    exact e
  have h0 : (fun i : Nat => htAt L (i : Int)) 0 = 0 := hL.zero
  have hN := (nOk_true hn).1
  have hN6 := (nOk_true hn).2.1
  have ht := first_tree hw
  have hlow := ht_low (by omega) (by omega) ht.ends (fun i hi => whole_same ht.whole hi) hL (fun r hr => by
    have := ok_runs hn r (ht.asc.mem_sub (Nat.le_refl _) r hr)
    exact ⟨this.2.2.2.1, this.2.2.2.2⟩)
  refine ⟨fun j hj => fit_T (x := fun i : Nat => htAt L (i : Int)) (j := j) hin hD h0 hx (by omega) ?_, fit_sum (x := fun i : Nat => htAt L (i : Int)) hin hD h0 hx (fun r hr => ?_)⟩
  · have hz : L[j]? = some (htAt L j) := by unfold htAt; rw [Int.toNat_natCast, List.getElem?_eq_getElem (by rw [hL.len]; exact hj)]; rfl
    have := hlow j _ hz
    show -1000000000 ≤ htAt L j ∧ htAt L j ≤ 1000000000
    omega
  · have := ok_runs hn r hr
    exact ⟨this.2.1, this.2.2.1, by omega, by omega⟩
set_option maxHeartbeats 16000000 in
set_option maxRecDepth 100000 in
theorem walk (len cap : Nat) (p : Option Addr) (len2 cap2 : Nat) (p2 : Option Addr) (w : World) (hl : len ≤ 1048576) (hl2 : len2 ≤ 1048576) (h : Hid (Code' w (.slice p len cap))) (h2 : Hid (Code' w (.slice p2 len2 cap2))) (he : Hid (ErrV w)) :
    Calls Tryz.prog 3 #[.slice p len cap, .slice p2 len2 cap2] w fun e w' => e = .returned (.bool true) ∧ Below w.heap.size w w' := by
  have hl' : ¬ (1048576 : Int) < (len : Int) := by omega
  have hl2' : ¬ (1048576 : Int) < (len2 : Int) := by omega
  have hl2'' : len2 ≤ 1048576 := hl2
  clear h2
  go_enter Tryz.func3, Tryz.ntmps3
  go_upto_region 4 with (go_at_call 6; (with_reducible refine (drawAdjHeights_is _ _ h).mono ?_); rintro e wd ⟨N, m, rs, P, ⟨c, hmc, rfl⟩, ⟨hmm, ⟨hN2, hN6⟩, hm8, hns⟩, hR, hb_wd⟩; have hs_wd := hb_wd.size; have HR := Lib.hid (show RunsE _ _ _ from ⟨hR, he.out.below hb_wd⟩); have HM := Lib.hid hmm; clear hR)
  clear h hns hmm
  cases hy : adjOk (N : Int) rs
  · have c1 := fun w h => Lib.hid (iHeights_no N (some ⟨P, 0, none⟩) c m rs w h HM.out (by omega) hy)
    have c2 := fun w h => Lib.hid (sHeights_no N (some ⟨P, 0, none⟩) c m rs w h HM.out (by omega) hy)
    clear hy
    go_wp2_with (first | (go_at_call 7; (with_reducible refine ((c1 _ ?_).out).mono ?_); (focus ((exact HR.out); done)); rintro e wi ⟨⟨q, d, rfl⟩, hb_wi⟩; have hs_wi := hb_wi.size; (try simp at hs_wi)) | (go_at_call 8; (with_reducible refine ((c2 _ ?_).out).mono ?_); (focus ((exact (HR.out.below hb_wi).runs); done)); rintro e ws ⟨⟨q2, rfl⟩, hb_ws⟩; have hs_ws := hb_ws.size; (try simp at hs_ws)) | (go_at_call 9; (with_reducible refine (sameQuos_nil _ _ _ _ _).mono ?_); rintro e wt ⟨rfl, hb_wt⟩; have hs_wt := hb_wt.size; (try simp at hs_wt)))
    exact bodyPost_ret (v := .bool true) (by simp [results, Tryz.results3, go_sem]) rfl ⟨rfl, (by repeat (first | assumption | exact Below.refl _ _ | (refine below_chain ?_ (by assumption) (by first | omega | (simp <;> omega) | simp)) | (refine Below.alloc ?_ (by first | omega | (simp <;> omega) | simp) _) | (apply below_drewN) | (apply below_drew) | (refine Below.setCell ?_ (by first | omega | (simp <;> omega) | simp) _)))⟩
  · obtain ⟨n, hNn⟩ : ∃ n, N = n + 1 := ⟨N - 1, by omega⟩
    obtain ⟨hw0, hok0⟩ := adj_true hy hNn
    have hn := (whole_iff.1 hw0).1
    have hD : dT n rs ≠ 0 := by
      have := dT_pos (n := n) (rs := rs) (by rw [← hNn]; exact hw0) (by rw [← hNn]; exact hn)
      omega
    have hin : InN (n + 1) rs := by rw [← hNn]; exact nOk_in hn
    have hQ1 : (hqs n rs N).length = N := hqs_len _ _ _
    have c1 := fun w h => Lib.hid (iHeights_yes N n (some ⟨P, 0, none⟩) c m rs w h hy HM.out hNn)
    have c2 := fun w h => Lib.hid (sHeights_yes N n (some ⟨P, 0, none⟩) c m rs w h hy HM.out hNn)
    have hq0 : ∀ j, j < N → (hqs n rs N)[j]? = some (Quo.T (hT n rs j) (dT n rs), Quo.L (hT n rs j) (dT n rs)) := fun j hj => hqs_at hj
    have hqv : ∀ j, j < N → Quo.qO (hT n rs j) (dT n rs) = true := fun j hj => okH_true.1 hok0 j (by omega)
    have ht := first_tree hw0
    have hm0 := adj_some hy hN2 HM.out
    have c3 := fun w h => Lib.hid (iFirst_yes N m (some ⟨P, 0, none⟩) c rs w h HM.out hw0)
    have c4 := fun (K d : Nat) (q : Option Addr) w h hq hK => Lib.hid (iTreeHeights_yes N m K (some ⟨P, 0, none⟩) q c d rs (firstT N rs rs.length) w h hq HM.out hK ht)
    obtain ⟨b, hb⟩ : ∃ b, closes N rs = b := ⟨_, rfl⟩
    have c5 := fun w h => Lib.hid (iCloses_yes N m (some ⟨P, 0, none⟩) c rs b w h HM.out hw0 hb)
    have c6 := fun w h => Lib.hid (iSum_yes N n (some ⟨P, 0, none⟩) c m rs w h hy HM.out hNn)
    have HZ := Lib.hid (And.intro hy (And.intro hb hin))
    obtain ⟨qs, hqs'⟩ : ∃ q, hqs n rs N = q := ⟨_, rfl⟩
    rw [hqs'] at c1 c2 hQ1 hq0
    have HQ := Lib.hid (And.intro hQ1 (And.intro hq0 (And.intro hD (And.intro hqv (And.intro hn hNn)))))
    clear hqs' hQ1 hq0 hD hin hn hNn hy hw0 hok0 hqv ht hb
    go_upto_region 6 with (first | ((go_at_call 7; (with_reducible refine ((c1 _ ?_).out).mono ?_); (focus ((exact HR.out); done)); rintro e wi ⟨gi, ci, rfl, hgi, oi, hb_wi⟩; have hs_wi := hb_wi.size; (try simp at hs_wi)); have OI := Lib.hid oi.quos; clear oi) | ((go_at_call 8; (with_reducible refine ((c2 _ ?_).out).mono ?_); (focus ((exact (HR.out.below hb_wi).runs); done)); rintro e ws ⟨gs, cs, rfl, hgs, os, hb_ws⟩; have hs_ws := hb_ws.size; (try simp at hs_ws)); have OS := Lib.hid os.quos; clear os))
    go_upto_region 8 with ((go_at_call 9; (with_reducible refine (sameQuos_is _ _ _ _ N qs _ ?_ ?_ HQ.out.1 (by omega)).mono ?_); (focus ((exact OI.out.below hb_ws); done)); (focus ((exact OS.out); done)); rintro e wt ⟨rfl, hb_wt⟩; have hs_wt := hb_wt.size; (try simp at hs_wt)))
    have hd : Below wd.heap.size wd wt := (by repeat (first | assumption | exact Below.refl _ _ | (refine below_chain ?_ (by assumption) (by first | omega | (simp <;> omega) | simp)) | (refine Below.alloc ?_ (by first | omega | (simp <;> omega) | simp) _) | (apply below_drewN) | (apply below_drew) | (refine Below.setCell ?_ (by first | omega | (simp <;> omega) | simp) _)))
    have hBW := hb_wd.trans (hd.mono hs_wd)
    have HBW := Lib.hid hBW
    have hsW := hBW.size
    have HR2 := Lib.hid (HR.out.below hd)
    have HO2 := Lib.hid ((OI.out.below hb_ws).below hb_wt)
    clear c1 c2 HR OI OS hd hBW hb_wd hb_wi hb_ws hb_wt hgi hgs hs_wd hs_wi hs_ws hs_wt
    go_upto_region 10 with (first | ((go_at_call 10; (with_reducible refine ((c3 _ ?_).out).mono ?_); (focus ((exact HR2.out.runs); done)); rintro e wf ⟨gf, cf, K, rfl, hK, hgf, of, hb_wf⟩; have hs_wf := hb_wf.size; (try simp at hs_wf)); have OF := Lib.hid (And.intro hK of); clear hK of) | ((go_at_call 11; (with_reducible refine ((c4 _ _ _ _ ?_ ?_ ?_).out).mono ?_); (focus ((exact (HR2.out.below (by repeat (first | assumption | exact Below.refl _ _ | (refine below_chain ?_ (by assumption) (by first | omega | (simp <;> omega) | simp)) | (refine Below.alloc ?_ (by first | omega | (simp <;> omega) | simp) _) | (apply below_drewN) | (apply below_drew) | (refine Below.setCell ?_ (by first | omega | (simp <;> omega) | simp) _)))).runs); done)); (focus ((exact OF.out.2.ints); done)); (focus ((exact OF.out.1); done)); rintro e wh ⟨L, gh, rfl, hht, hgh, oh, hb_wh⟩; have hs_wh := hb_wh.size; (try simp at hs_wh)); have OH := Lib.hid (And.intro hht oh); clear hht oh))
    have hBd : Below wt.heap.size wt wh := (by repeat (first | assumption | exact Below.refl _ _ | (refine below_chain ?_ (by assumption) (by first | omega | (simp <;> omega) | simp)) | (refine Below.alloc ?_ (by first | omega | (simp <;> omega) | simp) _) | (apply below_drewN) | (apply below_drew) | (refine Below.setCell ?_ (by first | omega | (simp <;> omega) | simp) _)))
    have HH := Lib.hid (And.intro (HBW.out.trans (hBd.mono hsW)) (And.intro (HR2.out.below hBd) (HO2.out.below hBd)))
    have hsH := HH.out.1.size
    clear hBd hb_wf hb_wh hgf hgh OF HR2 HO2 HBW c3 c4
    cases b
    · clear c6
      go_upto_region 18 with ((go_at_call 12; (with_reducible refine ((c5 _ ?_).out).mono ?_); (focus ((exact HH.out.2.1.runs); done)); rintro e wc ⟨rfl, hb_wc⟩; have hs_wc := hb_wc.size; (try simp at hs_wc)))
      go_upto_region 19 with ((go_at_call 15; (with_reducible refine (some_is N len2 _ hN6 hl2'').mono ?_); rintro e wg ⟨gg, cg, G, rfl, hGl, hGlow, hgg, og, hb_wg⟩; have hs_wg := hb_wg.size; (try simp at hs_wg)))
      have hBd : Below wh.heap.size wh wg := (by repeat (first | assumption | exact Below.refl _ _ | (refine below_chain ?_ (by assumption) (by first | omega | (simp <;> omega) | simp)) | (refine Below.alloc ?_ (by first | omega | (simp <;> omega) | simp) _) | (apply below_drewN) | (apply below_drew) | (refine Below.setCell ?_ (by first | omega | (simp <;> omega) | simp) _)))
      have HG := Lib.hid (And.intro (HH.out.1.trans (hBd.mono hsH)) (And.intro (HH.out.2.1.below hBd) (And.intro (HH.out.2.2.below hBd) (And.intro og (And.intro hGl hGlow)))))
      have hsG := HG.out.1.size
      have hggl := og.lt
      clear hb_wc hb_wg hBd HH OH og hGl hGlow c5 hgg
      have HF : Hid ((flat rs).length = m * 4) := Lib.hid (by rw [flat_len, HM.out])
      go_upto_region 20 with (at_builtin; refine wp_append _ rfl _ _ 23 rfl 42 _ 4 32 Tryz.underlying23 info_run rfl (by decide) (by decide) _ 0 0 [] rfl (Own.empty _ _ 4) _ _ _ (flat rs) rfl HF.out (runs_cells (HG.out.2.1.runs.alloc _)) (by omega) ?_; intro g1 cap1 wb hown hg hloc hsz; simp only [Nat.zero_add, List.nil_append] at hown ⊢; have hg1 : wg.heap.size ≤ g1 := (by rcases hloc with rfl | rfl <;> simp); have hb_wb : Below wg.heap.size wg wb := below_gr ((Below.refl _ _).alloc (Nat.le_refl _) _) hg (Nat.le_refl _) (by simp); have hs_wb := hb_wb.size; have HO1 := Lib.hid (And.intro hown hb_wb); clear hown hg hloc hb_wb hsz)
      have HR5 : Hid (EndsIn N rs ∧ (∀ r ∈ rs, -100000 ≤ r.s ∧ r.s ≤ 100000)) := Lib.hid ⟨nOk_ends HQ.out.2.2.2.2.1, fun r hr => by
        have := ok_runs HQ.out.2.2.2.2.1 r hr
        exact ⟨this.2.2.2.1, this.2.2.2.2⟩⟩
      have cX : Hid (∀ (c : Nat) (w : World), RunsE w (some ⟨g1, 0, none⟩) (rs.map (movR G)) → Calls Tryz.prog 7 #[.int .i64 N, .slice (some ⟨g1, 0, none⟩) m c] w fun e w' => ∃ q d b k, e = .returned (.tuple #[.slice q k d, .bool b]) ∧ (b = true → N = k ∧ ∃ gy, q = some ⟨gy, 0, none⟩ ∧ QRead w' q (hqs n (rs.map (movR G)) N) ∧ dT n (rs.map (movR G)) ≠ 0 ∧ ∀ j, j < N → Quo.qO (hT n (rs.map (movR G)) j) (dT n (rs.map (movR G))) = true) ∧ Below w.heap.size w w') := Lib.hid (fun c w h => by
        have hml : (rs.map (movR G)).length = m := by rw [List.length_map]; exact HM.out
        have hNn := HQ.out.2.2.2.2.2
        cases ha : adjOk (N : Int) (rs.map (movR G))
        · exact (iHeights_no N _ c m _ w h hml (by omega) ha).mono (fun e w' ⟨⟨q, d, he⟩, hb⟩ => ⟨q, d, false, 0, he, fun h => (by cases h), hb⟩)
        · obtain ⟨hw1, hok1⟩ := adj_true ha hNn
          have hn1 := (whole_iff.1 hw1).1
          have hD1 : dT n (rs.map (movR G)) ≠ 0 := by
            have := dT_pos (n := n) (rs := rs.map (movR G)) (by rw [← hNn]; exact hw1) (by rw [← hNn]; exact hn1)
            omega
          exact (iHeights_yes N n _ c m _ w h ha hml hNn).mono (fun e w' ⟨g, d, he, hg, ho, hb⟩ => ⟨_, d, true, N, he, fun _ => ⟨rfl, g, rfl, ho.quos, hD1, fun j hj => okH_true.1 hok1 j (by omega)⟩, hb⟩))
      go_wp2_with fail
      go_loopw [20] (fun i wr => ∃ k : Nat, k ≤ m ∧ i = .int .i64 k ∧ Own wr g1 42 4 m cap1 (flat (mvA G k rs)) ∧ Below wg.heap.size wg wr) (fun i _ => m - (intOf i).toNat)
      case atStart => exact ⟨0, Nat.zero_le _, rfl, HO1.out.1, HO1.out.2⟩
      case round =>
        clear HO1
        rename World => wr
        obtain ⟨k, hk, rfl, hox, hbr⟩ := hrel
        have hsr := hbr.size
        by_cases hlt : k < m
        · have hlt' : (k : Int) < (m : Int) := by omega
          obtain ⟨r, hr⟩ : ∃ r, rs[k]? = some r := ⟨_, List.getElem?_eq_getElem (by have := HM.out; omega)⟩
          have hrm := List.mem_of_getElem? hr
          obtain ⟨x0, x1, x2, x3⟩ := hox.runAt (mvA_at (L := G) hr)
          have f2 := hox.frozen (k * 4 + 2)
          have hlx := hox.lt
          obtain ⟨e1, e2, e3, e4⟩ := HR5.out.1 r hrm
          obtain ⟨e5, e6⟩ := HR5.out.2 r hrm
          have hst := mvA_set (L := G) hr
          obtain ⟨F, hF⟩ : ∃ F : Nat, r.f = (F : Int) := ⟨r.f.toNat, by omega⟩
          obtain ⟨T, hT⟩ : ∃ F : Nat, r.t = (F : Int) := ⟨r.t.toNat, by omega⟩
          have hGat : ∀ j : Nat, j < N → G[j]? = some (htAt G (j : Int)) := fun j hj => by
            unfold htAt; rw [Int.toNat_natCast, List.getElem?_eq_getElem (by rw [HG.out.2.2.2.2.1]; exact hj)]; rfl
          have gF := (HG.out.2.2.2.1.below hbr).cells (hGat F (by omega))
          have gT := (HG.out.2.2.2.1.below hbr).cells (hGat T (by omega))
          have bF := HG.out.2.2.2.2.2 _ _ (hGat F (by omega))
          have bT := HG.out.2.2.2.2.2 _ _ (hGat T (by omega))
          have hFN : (F : Int) < (N : Int) := by omega
          have hTN : (T : Int) < (N : Int) := by omega
          rw [hF] at x0
          rw [hT] at x1
          have hmv : movR G r = ⟨r.f, r.t, r.s + htAt G (T : Int) - htAt G (F : Int), r.g⟩ := by unfold movR; rw [hF, hT]
          rw [hmv] at hst
          obtain ⟨u, hu⟩ : ∃ u, htAt G (T : Int) = u := ⟨_, rfl⟩
          obtain ⟨v, hv⟩ : ∃ u, htAt G (F : Int) = u := ⟨_, rfl⟩
          rw [hu, hv] at hst
          rw [hu] at gT bT
          rw [hv] at gF bF
          obtain ⟨s, hs⟩ : ∃ u, r.s = u := ⟨_, rfl⟩
          rw [hs] at hst x2 e5 e6
          have q1 : IntKind.i64.wrap (s + u) = s + u := by rw [IntKind.wrap_i64]; omega
          have q2 : IntKind.i64.wrap (s + u - v) = s + u - v := by rw [IntKind.wrap_i64]; omega
          have HX := Lib.hid (And.intro hst (And.intro hox (And.intro hbr (mvA_at (L := G) hr))))
          have hm0i : (0 : Int) < (m : Int) := by omega
          clear hst hox hbr hr hrm hmv hu hv hs hF hT hGat x3 e1 e2 e3 e4
          go_upto_region 23 with fail
          go_region
          go_wp2_with fail
          go_roundw
          case rel =>
            refine ⟨k + 1, by omega, by go_num, ?_, below_drew (HX.out.2.2.1.setCell (p := ⟨g1, k * 4 + 2, none⟩) hg1 _)⟩
            rw [← HX.out.1]
            exact (HX.out.2.1.setS HX.out.2.2.2 (s + u - v)).block (w' := World.drew _) rfl
          case measure => simp [intOf]; omega
        · obtain rfl : k = m := by omega
          rw [mvA_all HM.out] at hox
          have HX := Lib.hid (And.intro hox (And.intro (HG.out.2.1.below hbr) (And.intro (HG.out.2.2.1.below hbr) (And.intro (HG.out.2.2.2.1.below hbr) (HG.out.1.trans (hbr.mono hsG))))))
          have hsX := HX.out.2.2.2.2.size
          clear hox hbr hlt
          go_upto_region 25 with ((go_at_call 7; (with_reducible refine ((cX.out _ _ ?_)).mono ?_); (focus ((exact ⟨HX.out.1.runs, HX.out.2.1.err⟩); done)); rintro e wy ⟨q, d, b2, k2, rfl, hy2, hb_wy⟩; have hs_wy := hb_wy.size; (try simp at hs_wy)))
          have HY := Lib.hid (And.intro hy2 (And.intro (HX.out.2.2.1.below hb_wy) (And.intro (HX.out.2.2.2.1.below hb_wy) (HX.out.2.2.2.2.trans (hb_wy.mono hsX)))))
          have hsY := HY.out.2.2.2.size
          clear hy2 hb_wy cX HX
          have hN0 : (0 : Int) < (N : Int) := by omega
          cases b2
          · go_wp2_with fail
            go_loopw [23] (fun i wr => i = .int .i64 0 ∧ wy = wr) (fun _ _ => 0)
            case atStart => exact ⟨rfl, rfl⟩
            case round =>
              obtain ⟨rfl, rfl⟩ := hrel
              go_wp2_with fail
              go_ret
              exact ⟨rfl, HY.out.2.2.2⟩
          · obtain ⟨rfl, gy, rfl, hqy, hD1, hqv1⟩ := HY.out.1 rfl
            have HY2 := Lib.hid (And.intro hqy (And.intro hD1 hqv1))
            clear hqy hD1 hqv1
            go_wp2_with fail
            go_loopw [23] (fun i wr => ∃ j : Nat, j ≤ N ∧ i = .int .i64 j ∧ Below wy.heap.size wy wr) (fun i _ => N - (intOf i).toNat)
            case atStart => exact ⟨0, Nat.zero_le _, rfl, Below.refl _ _⟩
            case round =>
              rename World => wr2
              obtain ⟨j, hj, rfl, hbr2⟩ := hrel
              have hsr2 := hbr2.size
              by_cases hlt5 : j < N
              · have hlt6 : (j : Int) < (N : Int) := by omega
                have hN0n : 0 < N := by omega
                have hNn := HQ.out.2.2.2.2.2
                have hqs := HQ.out.2.1 j hlt5
                obtain ⟨B', o', qx, he2, hx, hB, qa, qb⟩ := (HY.out.2.1.below hbr2).at (i := j) (by rw [HQ.out.1]; exact hlt5)
                cases he2
                rw [hqs] at hx
                cases hx
                obtain ⟨B', o', qx, he2, hx, hBy, ya, yb⟩ := (HY2.out.1.below hbr2).at (i := j) (by rw [hqs_len]; exact hlt5)
                cases he2
                rw [hqs_at hlt5] at hx
                cases hx
                rw [Nat.zero_add] at qa qb ya yb
                dsimp only at qa qb ya yb
                have hGat : ∀ j : Nat, j < N → G[j]? = some (htAt G (j : Int)) := fun j hj => by
                  unfold htAt; rw [Int.toNat_natCast, List.getElem?_eq_getElem (by rw [HG.out.2.2.2.2.1]; exact hj)]; rfl
                have gj := (HY.out.2.2.1.below hbr2).cells (hGat j hlt5)
                have g0 := (HY.out.2.2.1.below hbr2).cells (hGat 0 hN0n)
                have hggr := (HY.out.2.2.1.below hbr2).lt
                have bj := HG.out.2.2.2.2.2 _ _ (hGat j hlt5)
                have b0 := HG.out.2.2.2.2.2 _ _ (hGat 0 hN0n)
                have hmv := fun t l b => mov_val (n := n) (rs := rs) (L := G) (j := j) (t := t) (l := l) (b := b) HZ.out.2.2 HQ.out.2.2.1 HY2.out.2.1 (by omega) (HQ.out.2.2.2.1 j hlt5) (HY2.out.2.2 j hlt5)
                obtain ⟨T', hT'⟩ : ∃ q, Quo.T (hT n (rs.map (movR G)) j) (dT n (rs.map (movR G))) = q := ⟨_, rfl⟩
                obtain ⟨L', hL'⟩ : ∃ q, Quo.L (hT n (rs.map (movR G)) j) (dT n (rs.map (movR G))) = q := ⟨_, rfl⟩
                rw [hT', hL'] at hmv
                rw [hT'] at ya
                rw [hL'] at yb
                obtain ⟨a, ha⟩ : ∃ q, Quo.T (hT n rs j) (dT n rs) = q := ⟨_, rfl⟩
                obtain ⟨e, hee⟩ : ∃ q, Quo.L (hT n rs j) (dT n rs) = q := ⟨_, rfl⟩
                rw [ha, hee] at hmv
                rw [ha] at qa
                rw [hee] at qb
                have hz00 : htAt G ((0 : Nat) : Int) = htAt G 0 := rfl
                rw [hz00] at g0 b0
                obtain ⟨u, hu⟩ : ∃ q, htAt G (j : Int) = q := ⟨_, rfl⟩
                obtain ⟨v, hv⟩ : ∃ q, htAt G 0 = q := ⟨_, rfl⟩
                rw [hu, hv] at hmv
                rw [hu] at gj bj
                rw [hv] at g0 b0
                have c6 := fun w => Lib.hid (iAdd_any a e (u - v) 1 w)
                obtain ⟨x, hx⟩ : ∃ q, Quo.gT (Quo.both a e (u - v) 1) (a * 1 + (u - v) * e) (e * 1) = q := ⟨_, rfl⟩
                obtain ⟨xl, hxl⟩ : ∃ q, Quo.gL (Quo.both a e (u - v) 1) (a * 1 + (u - v) * e) (e * 1) = q := ⟨_, rfl⟩
                obtain ⟨bk, hbk⟩ : ∃ q, Quo.gOk (Quo.both a e (u - v) 1) (a * 1 + (u - v) * e) (e * 1) = q := ⟨_, rfl⟩
                rw [hx, hxl, hbk] at c6
                have HM2 := Lib.hid (fun hb : bk = true => hmv x xl bk (by omega) hx hxl hbk hb)
                have qw : IntKind.i64.wrap (u - v) = u - v := by rw [IntKind.wrap_i64]; omega
                have HBR := Lib.hid hbr2
                have hqal := World.block_lt_of_cell? wr2 _ qa
                have hg0l := World.block_lt_of_cell? wr2 _ g0
                clear hmv hx hxl hbk hu hv ha hee hT' hL' hGat hqs hNn hbr2 bj b0 hz00
                go_upto_region 28 with fail
                apply ways_cell (x := x) (y := xl) (V := wr2)
                · intro REST
                  go_region_held3 (fun W => W.cell? ⟨gi, j * 2, none⟩ = some (.int .i64 a) ∧ W.cell? ⟨gi, j * 2 + 1, none⟩ = some (.int .i64 e) ∧ W.cell? ⟨gg, j, none⟩ = some (.int .i64 u) ∧ W.cell? ⟨gg, 0, none⟩ = some (.int .i64 v)) (first | (go_keep; done) | (refine ⟨?_, ?_, ?_, ?_⟩ <;> (first | ((with_reducible refine cell_below_keep (by with_reducible assumption) ?_); with_reducible assumption) | ((with_reducible refine cell_set_keep _ ?_ ?_); (focus (dsimp only; omega)); (with_reducible refine cell_set_keep _ ?_ ?_); (focus (dsimp only; omega)); with_reducible assumption)))) (first
                    | (go_at_call 14; (with_reducible refine (whole_q _ _).mono ?_); rintro e w1 ⟨rfl, hb_w1⟩; (first | (have hV1 : Below wr2.heap.size wr2 w1 := (below_drew (Below.refl _ _)).trans hb_w1; have a0 := cell_below_keep hV1 qa; have b0 := World.block_lt_of_cell? _ _ a0; have a1 := cell_below_keep hV1 qb; have b1 := World.block_lt_of_cell? _ _ a1; have a2 := cell_below_keep hV1 gj; have b2 := World.block_lt_of_cell? _ _ a2; have a3 := cell_below_keep hV1 g0; have b3 := World.block_lt_of_cell? _ _ a3) | (have hV1 : Below wr2.heap.size wr2 w1 := ((below_drew (Below.refl wr2.heap.size wr2)).alloc (Nat.le_refl _) (.cells #[.int .i64 0, .int .i64 0] 36)).trans (hb_w1.mono (by simp)); have a0 := cell_below_keep hV1 qa; have b0 := World.block_lt_of_cell? _ _ a0; have a1 := cell_below_keep hV1 qb; have b1 := World.block_lt_of_cell? _ _ a1; have a2 := cell_below_keep hV1 gj; have b2 := World.block_lt_of_cell? _ _ a2; have a3 := cell_below_keep hV1 g0; have b3 := World.block_lt_of_cell? _ _ a3; obtain ⟨y1, y2, y3, y4⟩ := (Cell2.new wr2.drew 0 0 36).below hb_w1)))
                    | (go_at_call 16; (with_reducible refine ((c6 _).out).mono ?_); rintro e w2 ⟨rfl, hb_w2⟩; (first | (have hY := (show Cell2 w1 wr2.heap.size 0 0 from ⟨y1, y2, y3, y4⟩).below hb_w2; have hV2 : Below wr2.heap.size wr2 w2 := hV1.trans (hb_w2.mono hV1.size); have a0 := cell_below_keep hV2 qa; have b0 := World.block_lt_of_cell? _ _ a0; have a1 := cell_below_keep hV2 qb; have b1 := World.block_lt_of_cell? _ _ a1; have a2 := cell_below_keep hV2 gj; have b2 := World.block_lt_of_cell? _ _ a2; have a3 := cell_below_keep hV2 g0; have b3 := World.block_lt_of_cell? _ _ a3; obtain ⟨y1, y2, y3, y4⟩ := hY) | (have hV2 : Below wr2.heap.size wr2 w2 := hV1.trans (hb_w2.mono hV1.size); have a0 := cell_below_keep hV2 qa; have b0 := World.block_lt_of_cell? _ _ a0; have a1 := cell_below_keep hV2 qb; have b1 := World.block_lt_of_cell? _ _ a1; have a2 := cell_below_keep hV2 gj; have b2 := World.block_lt_of_cell? _ _ a2; have a3 := cell_below_keep hV2 g0; have b3 := World.block_lt_of_cell? _ _ a3) | (have hV2 : Below wr2.heap.size wr2 w2 := (hV1.alloc hV1.size (.cells #[.int .i64 0, .int .i64 0] 36)).trans (hb_w2.mono (by have := hV1.size; simp; omega)); have a0 := cell_below_keep hV2 qa; have b0 := World.block_lt_of_cell? _ _ a0; have a1 := cell_below_keep hV2 qb; have b1 := World.block_lt_of_cell? _ _ a1; have a2 := cell_below_keep hV2 gj; have b2 := World.block_lt_of_cell? _ _ a2; have a3 := cell_below_keep hV2 g0; have b3 := World.block_lt_of_cell? _ _ a3; obtain ⟨y1, y2, y3, y4⟩ := (Cell2.new w1 0 0 36).below hb_w2))))
                  all_goals
                    first
                    | (have hYA := Cell2.new w2 x xl 36; have hBA : Below wr2.heap.size wr2 (w2.alloc (.cells #[.int .i64 x, .int .i64 xl] 36)) := hV2.alloc hV2.size _; obtain ⟨Y, hYe⟩ : ∃ Y, w2.heap.size = Y := ⟨_, rfl⟩; rw [hYe] at hYA ⊢; refine gen_exitE (fun W => Cell2 W Y x xl ∧ Below wr2.heap.size wr2 W) ⟨hYA, hBA⟩ (fun W hW => ?_); exact REST Y W hW.1 hW.2)
                    | (have hYA := (show Cell2 w2 wr2.heap.size 0 0 from ⟨y1, y2, y3, y4⟩).set x xl; have hBA : Below wr2.heap.size wr2 ((w2.setCell ⟨wr2.heap.size, 0, none⟩ (.int .i64 x)).setCell ⟨wr2.heap.size, 1, none⟩ (.int .i64 xl)) := (hV2.setCell (Nat.le_refl _) _).setCell (Nat.le_refl _) _; refine gen_exitE (fun W => Cell2 W wr2.heap.size x xl ∧ Below wr2.heap.size wr2 W) ⟨hYA, hBA⟩ (fun W hW => ?_); obtain ⟨hW1, hW2⟩ := hW; obtain ⟨Y, hYe⟩ : ∃ Y, wr2.heap.size = Y := ⟨_, rfl⟩; rw [hYe] at hW1 ⊢; exact REST Y W hW1 hW2)
                    | (have hYA := (show Cell2 w2 w1.heap.size 0 0 from ⟨y1, y2, y3, y4⟩).set x xl; have hBA : Below wr2.heap.size wr2 ((w2.setCell ⟨w1.heap.size, 0, none⟩ (.int .i64 x)).setCell ⟨w1.heap.size, 1, none⟩ (.int .i64 xl)) := (hV2.setCell (hV1.size) _).setCell (hV1.size) _; refine gen_exitE (fun W => Cell2 W w1.heap.size x xl ∧ Below wr2.heap.size wr2 W) ⟨hYA, hBA⟩ (fun W hW => ?_); obtain ⟨hW1, hW2⟩ := hW; obtain ⟨Y, hYe⟩ : ∃ Y, w1.heap.size = Y := ⟨_, rfl⟩; rw [hYe] at hW1 ⊢; exact REST Y W hW1 hW2)
                · intro Y W2 hY hBW
                  obtain ⟨y1, y2, y3, y4⟩ := hY
                  have HBW2 := Lib.hid (HBR.out.trans (hBW.mono HBR.out.size))
                  have ya2 := cell_below_keep hBW ya
                  have yb2 := cell_below_keep hBW yb
                  have hsW2 := HBW2.out.size
                  have hYl := World.block_lt_of_cell? W2 _ y1
                  clear qa qb gj g0 ya yb c6 hqal hg0l HBR hBW
                  go_upto_region 29 with fail
                  cases bk
                  · go_region
                    go_wp2_with fail
                    go_roundw
                    case rel => exact ⟨j + 1, by omega, by go_num, below_drew HBW2.out⟩
                    case measure => simp [intOf]; omega
                  · obtain ⟨m1, m2⟩ := HM2.out rfl
                    subst m1 m2
                    go_region
                    go_wp2_with fail
                    go_roundw
                    case rel => exact ⟨j + 1, by omega, by go_num, below_drew HBW2.out⟩
                    case measure => simp [intOf]; omega
              · have HBF := Lib.hid (HY.out.2.2.2.trans (hbr2.mono hsY))
                have hje : j = N := by omega
                subst hje
                go_wp2_with fail
                go_ret
                exact ⟨rfl, HBF.out⟩
    · have hfa := fit_all HZ.out.1 HQ.out.2.2.2.2.2 HZ.out.2.1 OH.out.1
      have hq2 : ∀ j, j < N → qs[j]? = some (htAt L j, 1) := fun j hj => by rw [HQ.out.2.1 j hj, (hfa.1 j hj).1, (hfa.1 j hj).2]
      have HF := Lib.hid hq2
      rw [hfa.2] at c6
      clear hq2 hfa
      go_upto_region 11 with ((go_at_call 12; (with_reducible refine ((c5 _ ?_).out).mono ?_); (focus ((exact HH.out.2.1.runs); done)); rintro e wc ⟨rfl, hb_wc⟩; have hs_wc := hb_wc.size; (try simp at hs_wc)))
      have c6' : ∀ w, RunsE w (some ⟨P, 0, none⟩) rs → Hid (Calls Tryz.prog 13 #[.int .i64 N, .slice (some ⟨P, 0, none⟩) m c] w fun e w' => e = .returned (.tuple #[.agg #[.int .i64 0, .int .i64 1], .bool true]) ∧ Below w.heap.size w w') := c6
      have HC := Lib.hid (And.intro (HH.out.1.trans (hb_wc.mono hsH)) (And.intro (HH.out.2.1.below hb_wc) (And.intro (HH.out.2.2.below hb_wc) (OH.out.2.below hb_wc))))
      have hsC := HC.out.1.size
      clear hb_wc c5 c6 HH
      go_upto_region 12 with ((go_at_call 13; (with_reducible refine ((c6' _ ?_).out).mono ?_); (focus ((exact HC.out.2.1); done)); rintro e wi ⟨rfl, hb_wi⟩; have hs_wi := hb_wi.size; (try simp at hs_wi)))
      have hX := Cell2.new wi 0 1 36
      have hal : Below wi.heap.size wi (wi.alloc (.cells #[.int .i64 0, .int .i64 1] 36)) := (Below.refl _ _).alloc (Nat.le_refl _) _
      have hBd := hb_wi.trans (hal.mono hs_wi)
      obtain ⟨V, hV⟩ : ∃ V, V = wi.alloc (.cells #[.int .i64 0, .int .i64 1] 36) := ⟨_, rfl⟩
      obtain ⟨S, hXe⟩ : ∃ X, X = wi.heap.size := ⟨_, rfl⟩
      rw [← hV] at hX hBd ⊢
      rw [← hXe] at hX ⊢
      have HV := Lib.hid (And.intro hX hBd)
      clear hal hX hBd hV hXe hb_wi hs_wi
      have HVB := Lib.hid (And.intro (HC.out.1.trans (HV.out.2.mono hsC)) (And.intro (HC.out.2.2.1.below HV.out.2) (HC.out.2.2.2.below HV.out.2)))
      have hsV := HVB.out.1.size
      go_wp2_with fail
      go_loopw [17] (fun i wr => ∃ j : Nat, j ≤ N ∧ i = .int .i64 j ∧ Below V.heap.size V wr) (fun i _ => N - (intOf i).toNat)
      case atStart => exact ⟨0, Nat.zero_le _, rfl, Below.refl _ _⟩
      case round =>
        rename World => wr
        obtain ⟨j, hj, rfl, hbr⟩ := hrel
        have hsr := hbr.size
        by_cases hlt : j < N
        · have hlt' : (j : Int) < (N : Int) := by omega
          have hj0 : 0 < N := by omega
          obtain ⟨B', o', qx, he2, hx, hB, qa, qb⟩ := (HVB.out.2.1.below hbr).at (i := j) (by rw [HQ.out.1]; exact hlt)
          cases he2
          rw [HF.out j hlt] at hx
          cases hx
          rw [Nat.zero_add] at qa qb
          dsimp only at qa qb
          have hz : L[j]? = some (htAt L j) := by unfold htAt; rw [Int.toNat_natCast, List.getElem?_eq_getElem (by rw [OH.out.1.len]; exact hlt)]; rfl
          have ch := (HVB.out.2.2.below hbr).cells hz
          have hghl := (HVB.out.2.2.below hbr).lt
          obtain ⟨X, hX⟩ : ∃ X, htAt L j = X := ⟨_, rfl⟩
          rw [hX] at qa ch
          have HBR := Lib.hid hbr
          clear hz hX hbr
          go_upto_region 15 with fail
          go_region_held3 (fun W => W.cell? ⟨gi, j * 2, none⟩ = some (.int .i64 X) ∧ W.cell? ⟨gi, j * 2 + 1, none⟩ = some (.int .i64 1) ∧ W.cell? ⟨gh, j, none⟩ = some (.int .i64 X)) (first | (go_keep; done) | (refine ⟨?_, ?_, ?_⟩ <;> (first | ((with_reducible refine cell_below_keep (by with_reducible assumption) ?_); with_reducible assumption) | ((with_reducible refine cell_set_keep _ ?_ ?_); (focus (dsimp only; omega)); (with_reducible refine cell_set_keep _ ?_ ?_); (focus (dsimp only; omega)); with_reducible assumption)))) (first | (go_at_call 14; (with_reducible refine (whole_q _ _).mono ?_); rintro e w1 ⟨rfl, hb_w1⟩; have hV1 : Below wr.heap.size wr w1 := (below_drew (Below.refl _ _)).trans hb_w1; have l1 := cell_below_keep hV1 qa; have l2 := cell_below_keep hV1 qb; have l3 := cell_below_keep hV1 ch; have k1 := World.block_lt_of_cell? _ _ l1; have k3 := World.block_lt_of_cell? _ _ l3))
          all_goals
            have HBX := Lib.hid (HBR.out.trans (hV1.mono hsr))
            go_wp2_with fail
            go_roundw
            case rel => exact ⟨j + 1, by omega, by go_num, HBX.out⟩
            case measure => simp [intOf]; omega
        · obtain ⟨s1, s2, s3, s4⟩ := HV.out.1.below hbr
          have HBF := Lib.hid (HVB.out.1.trans (hbr.mono hsV))
          have hsF := HBF.out.size
          have hje : j = N := by omega
          subst hje
          clear hbr
          go_upto_region 17 with fail
          go_region_held3 (fun W => W.cell? ⟨S, 0, none⟩ = some (.int .i64 0) ∧ W.cell? ⟨S, 1, none⟩ = some (.int .i64 1)) (first | (go_keep; done) | (refine ⟨?_, ?_⟩ <;> (first | ((with_reducible refine cell_below_keep (by with_reducible assumption) ?_); with_reducible assumption) | ((with_reducible refine cell_set_keep _ ?_ ?_); (focus (dsimp only; omega)); (with_reducible refine cell_set_keep _ ?_ ?_); (focus (dsimp only; omega)); with_reducible assumption)))) (first | (go_at_call 14; (with_reducible refine (whole_q _ _).mono ?_); rintro e w1 ⟨rfl, hb_w1⟩; have hV1 : Below wr.heap.size wr w1 := (below_drew (Below.refl _ _)).trans hb_w1; have l1 := cell_below_keep hV1 s1; have l2 := cell_below_keep hV1 s2; have k1 := World.block_lt_of_cell? _ _ l1))
          all_goals
            have HBX := Lib.hid (HBF.out.trans (hV1.mono hsF))
            go_wp2_with fail
            go_ret
            exact ⟨rfl, HBX.out⟩

set_option maxRecDepth 100000 in
theorem walk_long (len cap : Nat) (p : Option Addr) (len1 cap1 : Nat) (p1 : Option Addr) (w : World) (hl : 1048576 < len ∨ 1048576 < len1) :
    Calls Tryz.prog 3 #[.slice p len cap, .slice p1 len1 cap1] w fun e w' => e = .returned (.bool true) ∧ Below w.heap.size w w' := by
  by_cases h0 : (1048576 : Int) < (len : Int)
  · go_enter Tryz.func3, Tryz.ntmps3
    go_wp2
    go_ret
    exact ⟨rfl, Below.refl _ _⟩
  · have hl' : (1048576 : Int) < (len1 : Int) := by omega
    clear hl
    go_enter Tryz.func3, Tryz.ntmps3
    go_wp2
    go_ret
    exact ⟨rfl, Below.refl _ _⟩

set_option maxRecDepth 100000 in
theorem contract (H : Type) (enc : TypeId × Value → H) (W : World) (base : Nat) (args : Array Value) (ds gs : List (DataW H)) (before : List MemPlace)
    (hval : ∀ (j : Nat) t v, Tryz.f3.params[j]? = some t → args[j]? = some v → Value.okWide Tryz.prog W .any base t v)
    (hW : DataW.Whole enc Tryz.prog Tryz.f3.params.toList Rows.fnAdjustFitSpec.vars false W args.toList ds gs before) (hL : laidMetH Tryz.prog Rows.fnAdjustFitRow.laid W) :
    Calls Tryz.prog 3 args W fun e W' => ∃ v, e = .returned v ∧ Rows.fnAdjustFitSpec.post enc Tryz.prog Tryz.f3 false true false false W args v W' := by
  have hL' : laidMet Tryz.prog Rows.fnAdjustFitRow.laid W := (MakeChecks.laidMetH_plain Tryz.prog Rows.fnAdjustFitRow.laid W (by kernel_rfl)) ▸ hL
  obtain ⟨ae, hve⟩ := err_laid hL'
  have hW' := hW
  obtain ⟨p, q, hA0, hV0, rfl, hfz, hnd⟩ := hW
  have hA : DataW.TrodAll enc Tryz.prog W 0 (fun _ => true) true Tryz.f3.params.toList args.toList ds p := hA0
  have hV : DataW.TrodVars enc Tryz.prog W (fun _ => true) ["loop.example/levellingnet/impl.errNoQuotients"] gs q := hV0
  rw [Tryz.params3] at hA hval
  obtain ⟨v0, vs0, d0, ds0, p0, q0, hargs, rfl, rfl, h0, r0⟩ := trodAll_cons hA
  obtain ⟨v1, vs1, d1, ds1, p1, q1, rfl, rfl, rfl, h1, r1⟩ := trodAll_cons r0
  obtain ⟨rfl, rfl, rfl⟩ := trodAll_nil r1
  obtain rfl : args = #[v0, v1] := by cases args; simp_all
  obtain ⟨rfl, rfl⟩ := hV.unique (hve.reads enc _)
  obtain ⟨a0, len0, cap0, rfl⟩ := okWide_slice Tryz.underlying22 (hval 0 22 v0 rfl rfl)
  have k0 := h0
  have lt0 : ∀ x ∈ p0, x.block < W.heap.size := by obtain ⟨m, hm⟩ := k0; exact DataW.trod_lt m _ _ _ hm
  obtain ⟨z0, w0⟩ : ∃ zs, IsRow .u8 W a0 len0 cap0 zs := by
    obtain ⟨fuel, hf⟩ := h0
    rcases open_ints Tryz.underlying22 Tryz.underlying5 (by kernel_rfl) hf with ⟨hcs, _⟩ | ⟨x, l, c, zs, hcs, _, hl, hm, hz, _, hcell, hwz⟩
    · simp [Value.cells] at hcs
      obtain ⟨rfl, rfl, rfl⟩ := hcs
      exact ⟨[], .inl ⟨rfl, rfl, rfl, rfl⟩⟩
    · simp [Value.cells] at hcs
      obtain ⟨rfl, rfl, rfl⟩ := hcs
      exact ⟨zs, .inr ⟨_, rfl, hl, hm, by simpa using hz, hcell, hwz⟩⟩
  obtain ⟨a1, len1, cap1, rfl⟩ := okWide_slice Tryz.underlying22 (hval 1 22 v1 rfl rfl)
  have k1 := h1
  have lt1 : ∀ x ∈ p1, x.block < W.heap.size := by obtain ⟨m, hm⟩ := k1; exact DataW.trod_lt m _ _ _ hm
  obtain ⟨z1, w1⟩ : ∃ zs, IsRow .u8 W a1 len1 cap1 zs := by
    obtain ⟨fuel, hf⟩ := h1
    rcases open_ints Tryz.underlying22 Tryz.underlying5 (by kernel_rfl) hf with ⟨hcs, _⟩ | ⟨x, l, c, zs, hcs, _, hl, hm, hz, _, hcell, hwz⟩
    · simp [Value.cells] at hcs
      obtain ⟨rfl, rfl, rfl⟩ := hcs
      exact ⟨[], .inl ⟨rfl, rfl, rfl, rfl⟩⟩
    · simp [Value.cells] at hcs
      obtain ⟨rfl, rfl, rfl⟩ := hcs
      exact ⟨zs, .inr ⟨_, rfl, hl, hm, by simpa using hz, hcell, hwz⟩⟩
  clear hA0 hV0
  have hw : Calls Tryz.prog 3 #[.slice a0 len0 cap0, .slice a1 len1 cap1] W fun e w' => e = .returned (.bool true) ∧ Below W.heap.size W w' := by
    by_cases hl : len0 ≤ 1048576
    · by_cases hm : len1 ≤ 1048576
      · exact walk len0 cap0 a0 len1 cap1 a1 W hl hm (Lib.hid (code_of_row w0 hl)) (Lib.hid (code_of_row w1 hm)) (Lib.hid hve.err)
      · exact walk_long len0 cap0 a0 len1 cap1 a1 W (by omega)
    · exact walk_long len0 cap0 a0 len1 cap1 a1 W (by omega)
  refine hw.mono fun e W' ⟨he, bel⟩ => ?_
  subst he
  exact ⟨_, rfl, _, _, _, [], _, [.cell 0 0], hW', trodAll_mk1 (shut_bool Tryz.underlying4 _), (trodAll_cons_mk (Below.trod laidOut (by kernel_rfl) (of_decide_eq_true (by kernel_rfl)) k0 bel lt0) (trodAll_cons_mk (Below.trod laidOut (by kernel_rfl) (of_decide_eq_true (by kernel_rfl)) k1 bel lt1) trodAll_mk0)), (hve.below bel).reads enc _, bel.frame _, fun h => by cases h⟩

theorem laid_met (os : Os) : laidMet Tryz.prog Rows.fnAdjustFitRow.laid ((World.doorLaid Tryz.prog 400 os).forCall (fun _ _ => 0) ⟨#[], #[.slice none 0 0, .slice none 0 0], []⟩).memory :=
  laidMet_of_run' 8 (by kernel_rfl) (by kernel_rfl)

set_option maxRecDepth 100000 in
theorem lifted (os : Os) (started : os.Started) (H : Type) (enc : TypeId × Value → H) (F : Stop.Interp) :
    ReturnsInHanded {} Tryz.checked os 3 .any ((OpenSpec.ofChange Rows.fnAdjustFitSpec).preRow enc Tryz.prog Tryz.f3 Rows.fnAdjustFitRow.domain false Rows.fnAdjustFitRow.laid) (((OpenSpec.ofChange Rows.fnAdjustFitSpec).at F).post enc Tryz.prog Tryz.f3 false true false false) := by
  refine returnsInHanded_of_row (C := Tryz.checked) (s := OpenSpec.ofChange Rows.fnAdjustFitSpec) own started (by kernel_rfl) Tryz.func3
    (witness_row_at (enc := enc) (C := Tryz.checked) false (World.doorLaid Tryz.prog 400 os) #[.slice none 0 0, .slice none 0 0] rfl (by kernel_rfl) (by kernel_rfl) (by kernel_rfl)
      (OpenSpec.preRow_of_B rfl 8 (by kernel_rfl) (by kernel_rfl) (laid_met os))) ?_
  intro W base args ds gs before hval hW _ _ _ hL _ _
  exact contract H enc W base args ds gs before hval hW hL

theorem said : Rows.FnAdjustFitSaid :=
  OpenClaim.holds_of_cond 3 Tryz.f3 rfl rfl rfl rfl rfl rfl rfl ⟨rfl, rfl, rfl, rfl, rfl⟩ rfl rfl rfl rfl rfl (by kernel_rfl) Tryz.func3 (by kernel_rfl)
    (of_decide_eq_true (by kernel_rfl)) (by unfold Func.isWrapper; first | (rw [if_pos (by decide +kernel)]; kernel_rfl) | (rw [if_neg (by decide +kernel)]; exact ⟨rfl, rfl⟩))
    (fun os started H enc _ F => by rw [OpenClaim.pre_eq_preRow]; exact lifted os started H enc F)

theorem plain (f : FuncId) (fn : Func) (hf : Tryz.pinned.checked.prog.funcNamed "loop.example/levellingnet/laws.FnAdjustFit" = some f) (hfn : Tryz.pinned.checked.prog.funcs[f]? = some fn) :
    true = Tryz.pinned.checked.prog.looks [] ∧ ∀ (j : Nat) t, fn.params[j]? = some t → Tryz.pinned.checked.prog.wantsStandIn t = false := by
  obtain rfl : f = 3 := Option.some.inj ((show Tryz.prog.funcNamed "loop.example/levellingnet/laws.FnAdjustFit" = some 3 by kernel_rfl).symm.trans hf) |>.symm
  obtain rfl : fn = Tryz.f3 := (Option.some.inj (Tryz.func3.symm.trans hfn)).symm
  refine ⟨by kernel_rfl, fun j t ht => ?_⟩
  rw [Tryz.params3] at ht
  have hm : t ∈ [22, 22] := by simpa using Array.mem_of_getElem? ht
  have hall : ([22, 22].all fun u => !Tryz.prog.wantsStandIn u) = true := by kernel_rfl
  exact (show Tryz.prog.wantsStandIn t = false by simpa using List.all_eq_true.1 hall t hm)

theorem card : Rows.FnAdjustFitCardSaid :=
  Claim7.holds_tied_plain_at .later [] _ _ _ _ said (fun _ h => by cases h) (by kernel_rfl) (fun _ h => by cases h) fnAdjustFit_row_tie rfl ⟨rfl, rfl⟩ (by kernel_rfl) rfl plain (by kernel_rfl)
end Go.Proofs.YtoaomjchaihkaaaGreatDoor.fnAdjustFit

