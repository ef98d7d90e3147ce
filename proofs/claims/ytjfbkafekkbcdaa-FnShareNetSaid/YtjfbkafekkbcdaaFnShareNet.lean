/-
  For every code the law FnShareNet returns true: impl.ShareRises answers as the reference model does; the sum of its rises is 0; three of them as a triangle with a further node, if that is a net, close, the heights of its first tree fit, and the further run keeps its rise. No condition: every list of bytes is taken.
-/
import Derived.Test.YtjfbkafekkbcdaaSi
import Derived.Test.YtjfbkafekkbcdaaSj
import Derived.Test.YtjfbkafekkbcdaaSk
import Derived.Test.YtjfbkafekkbcdaaDSz
import Derived.Test.YtjfbkafekkbcdaaVz
namespace Go.Proofs.Ytjfbkafekkbcdaa.fnShareNet
open Go.ChangeShapes Go.WideShapes Go.ChangeAt Go.RowKit
set_option linter.unusedVariables false

theorem runs_same {w W : World} {p : Option Addr} {rs : List Rn} (h : Runs w p rs) (hc : ∀ b o, W.cell? ⟨b, o, none⟩ = w.cell? ⟨b, o, none⟩) (hs : W.heap.size = w.heap.size) : Runs W p rs := by
  rcases h with rfl | ⟨B, o, rfl, hB, hx⟩
  · exact .inl rfl
  · exact .inr ⟨B, o, rfl, by omega, fun i r hi => by
      obtain ⟨h1, h2, h3, h4⟩ := hx i r hi
      exact ⟨(hc _ _).trans h1, (hc _ _).trans h2, (hc _ _).trans h3, (hc _ _).trans h4⟩⟩
theorem hang_fits {os L : List Int} (hl : os.length = 3) (h0 : tot os = 0) (hn : nOk 4 (hang :: ringR 3 os 3) = true) (hH : IsHt 4 (sub (hang :: ringR 3 os 3) (firstT 4 (hang :: ringR 3 os 3) (hang :: ringR 3 os 3).length)) L) :
    nFits 4 (hang :: ringR 3 os 3) L = true ∧ htAt L 1 - htAt L 3 = 7 ∧ ∀ (i : Nat) (z : Int), L[i]? = some z → -600000 ≤ z ∧ z ≤ 600000 := by
  obtain ⟨hw, hc⟩ := hang_closes hl h0 hn
  have hf := (errs_zero (N := 4) hw hH).1 (closes_true.1 hc).2
  have hI : IsHt 4 (hang :: ringR 3 os 3) L := ⟨hH.len, hH.zero, hf⟩
  obtain ⟨-, -, hl12, hall⟩ := nOk_true hn
  have hb := ht_low (N := 4) (by omega) (by omega) (nOk_ends (N := 4) hn) (fun i hi => whole_same (N := 4) hw hi) hI (fun r hr => by
    obtain ⟨i, hi⟩ := List.getElem?_of_mem hr
    obtain ⟨-, -, -, -, -, a, b, -⟩ := rOk_true (hall i r hi)
    exact ⟨a, b⟩)
  exact ⟨nFits_of hn (htOk_of (by rw [hH.len]; rfl) (fun i z hi hz => by have := hb i z hz; simp [hOk]; omega)) (fun i r hi hr => by simp only [fitR, decide_eq_true_eq]; exact hf r (List.mem_of_getElem? hr)), hf hang (by simp), hb⟩
set_option maxHeartbeats 8000000 in
set_option maxRecDepth 100000 in
theorem walk (len cap : Nat) (p : Option Addr) (w : World) (hl : len ≤ 1048576) (h : Hid (Code' w (.slice p len cap))) :
    Calls Try.prog 9 #[.slice p len cap] w fun e w' => e = .returned (.bool true) ∧ Below w.heap.size w w' := by
  have hl' : ¬ (1048576 : Int) < (len : Int) := by omega
  go_enter Try.func9, Try.ntmps9
  go_upto_region 4 with (go_at_call 25; (with_reducible refine (drawShareRises_is _ _ h).mono ?_); rintro e wd ⟨ls, ss, n, m, P, c, d, q, rfl, ⟨⟨hln, hn6⟩, hsm, hm6⟩, hP, hq, hb_wd⟩; have hs_wd := hb_wd.size; have HR := Lib.hid (And.intro hP hq); have HM := Lib.hid (And.intro hln hsm); clear hP hq hln hsm)
  clear h
  by_cases hr : risOk ls ss
  · obtain rfl : m = n := by have := hr.2.1; have := HM.out; omega
    have hm1 : 1 ≤ m := by have := (lenOk_true.1 hr.1).1; have := HM.out.1; omega
    have c1 := fun w h hh => Lib.hid (iShareRises_yes m c d (some ⟨P, 0, none⟩) q ls ss w h hh HM.out.1 hr)
    have c2 := fun w h hh => Lib.hid (sShareRises_yes m c d (some ⟨P, 0, none⟩) q ls ss w h hh HM.out.1 hr)
    have hol : (rsh ls ss).length = m := by rw [rsh_len]; exact HM.out.1
    have hob : ∀ z ∈ rsh ls ss, -1000000000 ≤ z ∧ z ≤ 1000000000 := fun z hz => by
      obtain ⟨i, hi, rfl⟩ := mem_nth hz
      rw [rsh_len] at hi
      rw [nth_rsh hi]
      have h1 := sh_low hr.amt.2 hi
      have h2 := hr.2.2 (nth ss i) (nth_mem (by rw [hr.2.1]; exact hi))
      omega
    have hts := rsh_sum (ss := ss) hr.1 hr.2.1
    have c3 := fun (g cg : Nat) w h => Lib.hid (lSum m cg (some ⟨g, 0, none⟩) (rsh ls ss) w h hol (by omega) hob)
    rw [hts] at c3
    obtain ⟨O, hO⟩ : ∃ O, rsh ls ss = O := ⟨_, rfl⟩
    rw [hO] at c1 c2 hol hob hts c3
    have HL := Lib.hid (And.intro hol (And.intro hts hob))
    clear hol hts hob hO hr
    go_upto_region 8 with (first | ((go_at_call 26; (with_reducible refine ((c1 _ ?_ ?_).out).mono ?_); (focus ((exact HR.out.1); done)); (focus ((exact HR.out.2); done)); rintro e wi ⟨g, cg, rfl, hg, og, hb_wi⟩; have hs_wi := hb_wi.size; (try simp at hs_wi)); have OG := Lib.hid og; clear og) | ((go_at_call 27; (with_reducible refine ((c2 _ ?_ ?_).out).mono ?_); (focus ((exact HR.out.1.below hb_wi); done)); (focus ((exact HR.out.2.below hb_wi); done)); rintro e ws ⟨g2, cg2, rfl, hg2, og2, hb_ws⟩; have hs_ws := hb_ws.size; (try simp at hs_ws)); have OG2 := Lib.hid og2; clear og2) | (go_at_call 17; (with_reducible refine (sameInts_at' HL.out.1 _ _ _ _ _ ?_ ?_ (by omega)).mono ?_); (focus ((exact (OG.out.below (by repeat (first | assumption | exact Below.refl _ _ | (refine below_chain ?_ (by assumption) (by first | omega | (simp <;> omega) | simp)) | (refine Below.alloc ?_ (by first | omega | (simp <;> omega) | simp) _) | (apply below_drewN) | (apply below_drew) | (refine Below.setCell ?_ (by first | omega | (simp <;> omega) | simp) _)))).ints); done)); (focus ((exact OG2.out.ints); done)); rintro e wt ⟨rfl, hb_wt⟩; have hs_wt := hb_wt.size; (try simp at hs_wt)))
    have hBi : Below wi.heap.size wi wt := (by repeat (first | assumption | exact Below.refl _ _ | (refine below_chain ?_ (by assumption) (by first | omega | (simp <;> omega) | simp)) | (refine Below.alloc ?_ (by first | omega | (simp <;> omega) | simp) _) | (apply below_drewN) | (apply below_drew) | (refine Below.setCell ?_ (by first | omega | (simp <;> omega) | simp) _)))
    have hBd : Below wd.heap.size wd wt := (by repeat (first | assumption | exact Below.refl _ _ | (refine below_chain ?_ (by assumption) (by first | omega | (simp <;> omega) | simp)) | (refine Below.alloc ?_ (by first | omega | (simp <;> omega) | simp) _) | (apply below_drewN) | (apply below_drew) | (refine Below.setCell ?_ (by first | omega | (simp <;> omega) | simp) _)))
    have HU2 := Lib.hid (And.intro (OG.out.below hBi) (hb_wd.trans (hBd.mono hs_wd)))
    have hgw : w.heap.size ≤ g := by omega
    clear hb_wd hb_wi hb_ws hb_wt hBi hBd HR OG OG2 c1 c2
    refine gen_world (fun W => Own W g 3 1 m cg O ∧ Below w.heap.size w W) HU2.out (fun wu HU => ?_)
    clear HU2
    have HU2 := Lib.hid HU
    have hsu := HU.2.size
    have hgu := HU.1.lt
    clear HU
    by_cases hm3 : m = 3
    · subst hm3
      go_wp2_with fail
      have HE : Hid (Own (wu.alloc (.cells #[.int .i64 3, .int .i64 1, .int .i64 7, .int .i64 2] 41)) wu.heap.size 41 4 1 1 (flat [hang])) := Lib.hid (.of (Deep.blk_alloc_new _ _) (Nat.le_refl _) (by decide) rfl (by simp [ivs, flat, hang]) rfl)
      go_loopw [9, 10] (fun v i wr => ∃ (j gr cr : Nat), j ≤ 3 ∧ i = .int .i64 j ∧ v = .slice (some ⟨gr, 0, none⟩) (j + 1) cr ∧ wu.heap.size ≤ gr ∧ Own wr gr 41 4 (j + 1) cr (flat (hang :: ringR 3 O j)) ∧ Below wu.heap.size wu wr) (fun _ i _ => 3 - (intOf i).toNat)
      case atStart => exact ⟨0, _, _, Nat.zero_le _, rfl, rfl, Nat.le_refl _, HE.out, (by repeat (first | assumption | exact Below.refl _ _ | (refine below_chain ?_ (by assumption) (by first | omega | (simp <;> omega) | simp)) | (refine Below.alloc ?_ (by first | omega | (simp <;> omega) | simp) _) | (apply below_drewN) | (apply below_drew) | (refine Below.setCell ?_ (by first | omega | (simp <;> omega) | simp) _)))⟩
      case round =>
        clear HE
        rename World => wz
        obtain ⟨j, gr, cr, hj, rfl, rfl, hgr, ho, hbz⟩ := hrel
        have hsz := hbz.size
        have hlo := ho.lt
        have HZ := Lib.hid (And.intro ho hbz)
        clear ho hbz
        by_cases hlt : j < 3
        · obtain ⟨o, hox⟩ : ∃ o, nth O j = o := ⟨_, rfl⟩
          have hjo : O[j]? = some o := by rw [← hox]; exact at_nth (by have := HL.out.1; omega)
          have e0 := (HU2.out.1.below HZ.out.2).cells hjo
          obtain ⟨tt, htt⟩ : ∃ tt, (j + 1) % 3 = tt := ⟨_, rfl⟩
          have hrm : ((j : Int) + 1) % 3 = (tt : Int) := by omega
          have hrm' : ((j : Int) + 1).tmod 3 = (tt : Int) := by rw [← htt]; rfl
          have hr1 : ring1 3 O j = ⟨j, tt, o, 1⟩ := by unfold ring1; rw [htt, hox]
          have hlt' : (j : Int) < 3 := by omega
          have hgz : g < wz.heap.size := by omega
          have HR1 := Lib.hid hr1
          clear hjo hox htt hr1
          go_wp2_with (at_builtin; refine wp_append _ rfl _ _ 39 rfl 41 _ 4 32 Try.underlying39 info_run rfl (by decide) (by decide) gr (j + 1) cr _ rfl (HZ.out.1.alloc _) _ _ _ [(j : Int), (tt : Int), o, 1] rfl rfl (four_cells _ _ _ _ _ _) (by omega) ?_; intro g1 d1 w1 hown hg1 hloc hlt1; have HN := Lib.hid (And.intro hown (And.intro hg1 hloc)); clear hown hg1 hloc)
          obtain ⟨hown, hg1, hloc⟩ := HN.out
          rw [flat_snoc, ← HR1.out, List.cons_append, ring_snoc] at hown
          have hg2 : wu.heap.size ≤ g1 := by
            rcases hloc with e | e
            · omega
            · simp at e; omega
          exact ⟨⟨j + 1, g1, d1, by omega, by go_num, rfl, hg2, hown, below_gr (HZ.out.2.alloc hsz _) hg1 hgr (by simp; omega)⟩, by simp [intOf]; omega⟩
        · have e : j = 3 := by omega
          subst e
          clear c3 hlt
          have hrl : (hang :: ringR 3 O 3).length = 4 := by rw [List.length_cons, ring_len]
          have HB := Lib.hid (HU2.out.2.trans (HZ.out.2.mono hsu))
          have hszw := HB.out.size
          obtain ⟨v, hv⟩ : ∃ v, nOk 4 (hang :: ringR 3 O 3) = v := ⟨_, rfl⟩
          have c5 := fun w h => Lib.hid (iValid_n (n := 4) (p := some ⟨gr, 0, none⟩) (c := cr) w hrl h (by omega) hv)
          cases v
          · clear hv hrl
            obtain ⟨x0, x1, x2, rfl⟩ : ∃ x0 x1 x2, O = [x0, x1, x2] := by
              have := HL.out.1
              match O, this with
              | [a, b, c], _ => exact ⟨a, b, c, rfl⟩
            have hx : x0 + x1 + x2 = 0 := by have := HL.out.2.1; simp [tot] at this; omega
            obtain ⟨a0, a1⟩ := HL.out.2.2 x0 (by simp)
            obtain ⟨b0, b1⟩ := HL.out.2.2 x1 (by simp)
            obtain ⟨d0, d1⟩ := HL.out.2.2 x2 (by simp)
            have HXX := Lib.hid hx
            clear hx
            go_wp2_with ((go_at_call 28; (with_reducible refine ((c5 _ ?_).out).mono ?_); (focus ((exact HZ.out.1.runs); done)); rintro e wy ⟨rfl, hb_wy⟩; have hs_wy := hb_wy.size; (try simp at hs_wy)))
            have oy := (HU2.out.1.below HZ.out.2).below hb_wy
            have e0 := oy.cells (i := 0) (z := x0) rfl
            have e1 := oy.cells (i := 1) (z := x1) rfl
            have e2 := oy.cells (i := 2) (z := x2) rfl
            have hgy := oy.lt
            clear oy
            (refine wp_region_grows (by kernel_rfl) (by kernel_rfl) ?_; intro W_wg hWc_wg hWs_wg hWe_wg; (repeat (go_big_quiet_step (fail))); with_reducible refine wpQuiet_nil ?_; clear hWe_wg hWs_wg hWc_wg W_wg; intro wg hb_wg; obtain ⟨hc_wg, hf_wg⟩ := bcell hb_wg; (try simp only [World.size_drew, World.cell?_drew, World.frozen?_drew, World.heap_drewN, World.cell?_drewN, World.frozen?_drewN] at hc_wg hf_wg); have hs_wg := hb_wg.size; (try simp at hs_wg))
            go_wp2_with fail
            go_ret
            exact ⟨ret_bool (by have := HXX.out; first | (simp; omega) | (simp [this])), (HB.out.trans (hb_wy.mono hszw)).trans (hb_wg.mono (by have := hb_wy.size; omega))⟩
          · obtain ⟨hw, hc⟩ := hang_closes HL.out.1 HL.out.2.1 hv
            have c6 := fun w h => Lib.hid (calls_to (A' := #[.int .i64 4, .slice (some ⟨gr, 0, none⟩) 4 cr]) (iFirst_yes 4 4 (some ⟨gr, 0, none⟩) cr (hang :: ringR 3 O 3) w h hrl hw) rfl)
            have c7 := fun (gT cT k : Nat) (hk : (firstT 4 (hang :: ringR 3 O 3) (hang :: ringR 3 O 3).length).length = k) w h hq => Lib.hid (calls_to (A' := #[.int .i64 4, .slice (some ⟨gr, 0, none⟩) 4 cr, .slice (some ⟨gT, 0, none⟩) k cT]) (iTreeHeights_yes 4 4 k (some ⟨gr, 0, none⟩) (some ⟨gT, 0, none⟩) cr cT (hang :: ringR 3 O 3) (firstT 4 (hang :: ringR 3 O 3) (hang :: ringR 3 O 3).length) w h hq hrl hk (first_tree (N := 4) hw)) rfl)
            have c8 := fun w h => Lib.hid (calls_to (A' := #[.int .i64 4, .slice (some ⟨gr, 0, none⟩) 4 cr]) (iCloses_yes 4 4 (some ⟨gr, 0, none⟩) cr (hang :: ringR 3 O 3) true w h hrl hw hc) rfl)
            have c9 := fun (L : List Int) (gh : Nat) (hL : L.length = 4) (hf : nFits 4 (hang :: ringR 3 O 3) L = true) w h hh => (show Hid (Calls Try.prog 32 #[.int .i64 4, .slice (some ⟨gr, 0, none⟩) 4 cr, .slice (some ⟨gh, 0, none⟩) 4 4] w fun e w' => e = .returned (.bool true) ∧ Below w.heap.size w w') from Lib.hid (by
              have := iFits 4 (some ⟨gr, 0, none⟩) (some ⟨gh, 0, none⟩) cr 4 (hang :: ringR 3 O 3) L true w h hh (by omega) (by omega) hf
              rw [hrl, hL] at this
              exact this))
            have HV := Lib.hid hv
            clear hv hrl hw hc
            go_upto_region 19 with (first | (go_at_call 28; (with_reducible refine ((c5 _ ?_).out).mono ?_); (focus ((exact HZ.out.1.runs); done)); rintro e wy ⟨rfl, hb_wy⟩; have hs_wy := hb_wy.size; (try simp at hs_wy)) | ((go_at_call 30; (with_reducible refine ((c6 _ ?_).out).mono ?_); (focus ((exact HZ.out.1.runs.below hb_wy); done)); rintro e wf ⟨gT, cT, k, rfl, hk, hgT, oT, hb_wf⟩; have hs_wf := hb_wf.size; (try simp at hs_wf)); have OT := Lib.hid (And.intro hk oT); clear hk oT) | ((go_at_call 31; (with_reducible refine ((c7 gT cT k OT.out.1 _ ?_ ?_).out).mono ?_); (focus ((exact HZ.out.1.runs.below (by repeat (first | assumption | exact Below.refl _ _ | (refine below_chain ?_ (by assumption) (by first | omega | (simp <;> omega) | simp)) | (refine Below.alloc ?_ (by first | omega | (simp <;> omega) | simp) _) | (apply below_drewN) | (apply below_drew) | (refine Below.setCell ?_ (by first | omega | (simp <;> omega) | simp) _)))); done)); (focus ((exact OT.out.2.ints); done)); rintro e wh ⟨L, gh, rfl, hH, hgh, oh, hb_wh⟩; have hs_wh := hb_wh.size; (try simp at hs_wh)); have OH := Lib.hid (And.intro hH oh); clear hH oh))
            have hRh : Runs wh (some ⟨gr, 0, none⟩) (hang :: ringR 3 O 3) := HZ.out.1.runs.below (by repeat (first | assumption | exact Below.refl _ _ | (refine below_chain ?_ (by assumption) (by first | omega | (simp <;> omega) | simp)) | (refine Below.alloc ?_ (by first | omega | (simp <;> omega) | simp) _) | (apply below_drewN) | (apply below_drew) | (refine Below.setCell ?_ (by first | omega | (simp <;> omega) | simp) _)))
            have hBh : Below wz.heap.size wz wh := (by repeat (first | assumption | exact Below.refl _ _ | (refine below_chain ?_ (by assumption) (by first | omega | (simp <;> omega) | simp)) | (refine Below.alloc ?_ (by first | omega | (simp <;> omega) | simp) _) | (apply below_drewN) | (apply below_drew) | (refine Below.setCell ?_ (by first | omega | (simp <;> omega) | simp) _)))
            obtain ⟨hH, oh⟩ := OH.out
            obtain ⟨hf, h7, hbd⟩ := hang_fits HL.out.1 HL.out.2.1 HV.out hH
            obtain ⟨v1, hv1⟩ : ∃ v, L[1]? = some v := ⟨_, List.getElem?_eq_getElem (by rw [hH.len]; omega)⟩
            obtain ⟨v3, hv3⟩ : ∃ v, L[3]? = some v := ⟨_, List.getElem?_eq_getElem (by rw [hH.len]; omega)⟩
            obtain ⟨b0, b1⟩ := hbd 1 v1 hv1
            obtain ⟨d0, d1⟩ := hbd 3 v3 hv3
            have t1 : htAt L 1 = v1 := htAt_nat (i := 1) hv1
            have t3 : htAt L 3 = v3 := htAt_nat (i := 3) hv3
            rw [t1, t3] at h7
            have e1 := oh.cells hv1
            have e3 := oh.cells hv3
            have hgl := oh.lt
            have hLl := hH.len
            have d8 : ∀ W : World, (∀ b o, W.cell? ⟨b, o, none⟩ = wh.cell? ⟨b, o, none⟩) → W.heap.size = wh.heap.size → ∀ d : Ext W, Hid (Calls Try.prog 29 #[.int .i64 4, .slice (some ⟨gr, 0, none⟩) 4 cr] d.now fun e w' => e = .returned (.bool true) ∧ Below d.now.heap.size d.now w') := fun W hc hs d => c8 d.now ((runs_same hRh hc hs).below d.grown)
            have d9 : ∀ W : World, (∀ b o, W.cell? ⟨b, o, none⟩ = wh.cell? ⟨b, o, none⟩) → W.heap.size = wh.heap.size → ∀ d : Ext W, Hid (Calls Try.prog 32 #[.int .i64 4, .slice (some ⟨gr, 0, none⟩) 4 cr, .slice (some ⟨gh, 0, none⟩) 4 4] d.now fun e w' => e = .returned (.bool true) ∧ Below d.now.heap.size d.now w') := fun W hc hs d => c9 L gh hLl hf d.now ((runs_same hRh hc hs).below d.grown) ((ints_same' oh.ints hc hs).below d.grown)
            have HC := Lib.hid (And.intro d8 d9)
            have HF := Lib.hid (And.intro h7 (HB.out.trans (hBh.mono hszw)))
            clear c5 c6 c7 c8 c9 d8 d9 h7 hbd hH oh hf hv1 hv3 t1 t3 hRh hBh hLl OH OT HV hb_wy hb_wf hb_wh
            (refine wp_region_grows (by kernel_rfl) (by kernel_rfl) ?_; intro W_wg hWc_wg hWs_wg hWe_wg; (repeat (go_big_quiet_step (first | (go_at_call 29; with_reducible exact Ext.call ((HC.out.1 _ hWc_wg hWs_wg _).out)) | (go_at_call 32; with_reducible exact Ext.call ((HC.out.2 _ hWc_wg hWs_wg _).out))))); with_reducible refine wpQuiet_nil ?_; clear hWe_wg hWs_wg hWc_wg W_wg; intro wg hb_wg; obtain ⟨hc_wg, hf_wg⟩ := bcell hb_wg; (try simp only [World.size_drew, World.cell?_drew, World.frozen?_drew, World.heap_drewN, World.cell?_drewN, World.frozen?_drewN] at hc_wg hf_wg); have hs_wg := hb_wg.size; (try simp at hs_wg))
            go_wp2_with fail
            go_ret
            exact ⟨ret_bool (by have := HF.out.1; first | (simp; omega) | (simp [this])), HF.out.2.trans (hb_wg.mono (by have := HF.out.2.size; omega))⟩
    · have hm3' : ¬ (m : Int) = 3 := by omega
      go_wp2_with (go_at_call 18; (with_reducible refine ((c3 _ _ _ ?_).out).mono ?_); (focus (exact HU2.out.1.ints; done)); rintro e w' ⟨rfl, rfl⟩)
      go_ret
      exact ⟨rfl, HU2.out.2⟩
  · have c1 := fun w h hh => Lib.hid (iShareRises_no n c m d (some ⟨P, 0, none⟩) q ls ss w h hh HM.out.1 HM.out.2 (by omega) (by omega) hr)
    have c2 := fun w h hh => Lib.hid (sShareRises_no n c m d (some ⟨P, 0, none⟩) q ls ss w h hh HM.out.1 HM.out.2 (by omega) (by omega) hr)
    clear hr
    go_wp2_with (first | (go_at_call 26; (with_reducible refine ((c1 _ ?_ ?_).out).mono ?_); (focus ((exact HR.out.1); done)); (focus ((exact HR.out.2); done)); rintro e wi ⟨⟨q2, d2, rfl⟩, hb_wi⟩; have hs_wi := hb_wi.size; (try simp at hs_wi)) | (go_at_call 27; (with_reducible refine ((c2 _ ?_ ?_).out).mono ?_); (focus ((exact HR.out.1.below hb_wi); done)); (focus ((exact HR.out.2.below hb_wi); done)); rintro e ws ⟨⟨g, rfl⟩, hb_ws⟩; have hs_ws := hb_ws.size; (try simp at hs_ws)) | (go_at_call 17; (with_reducible refine (sameInts_nil _ _ _ _ _).mono ?_); rintro e wt ⟨rfl, hb_wt⟩; have hs_wt := hb_wt.size; (try simp at hs_wt)))
    go_ret
    exact ⟨rfl, (by repeat (first | assumption | exact Below.refl _ _ | (refine below_chain ?_ (by assumption) (by first | omega | (simp <;> omega) | simp)) | (refine Below.alloc ?_ (by first | omega | (simp <;> omega) | simp) _) | (apply below_drewN) | (apply below_drew) | (refine Below.setCell ?_ (by first | omega | (simp <;> omega) | simp) _)))⟩

set_option maxRecDepth 100000 in
theorem walk_long (len cap : Nat) (p : Option Addr) (w : World) (hl : 1048576 < len) :
    Calls Try.prog 9 #[.slice p len cap] w fun e w' => e = .returned (.bool true) ∧ Below w.heap.size w w' := by
  have hl' : (1048576 : Int) < (len : Int) := by omega
  go_enter Try.func9, Try.ntmps9
  go_wp2
  go_ret
  exact ⟨rfl, Below.refl _ _⟩

set_option maxRecDepth 100000 in
theorem lifted (os : Os) (started : os.Started) (H : Type) (enc : TypeId × Value → H) :
    ReturnsInHanded {} Try.checked os 9 .any (Rows.fnShareNetSpec.pre6 enc Try.prog Try.f9 Rows.fnShareNetRow.domain false) (Rows.fnShareNetSpec.post enc Try.prog Try.f9 false true false false) := by
  refine returnsInHanded_of_change (C := Try.checked) own started (by kernel_rfl) Try.func9
    (ChangeSpec.witness6 (enc := enc) (C := Try.checked) false ⟨#[], #[.slice none 0 0], []⟩ 8 (by kernel_rfl) (by kernel_rfl) (by kernel_rfl) (by kernel_rfl)) ?_
  intro W base args ds gs before hval0 hW hcnd _
  have hval : ∀ (j : Nat) t v, Try.f9.params[j]? = some t → args[j]? = some v → Value.okWide Try.prog W .any base t v := hval0
  have hW' := hW
  obtain ⟨p, q, hA0, hV, rfl, hfz, hnd⟩ := hW
  have hA : DataW.TrodAll enc Try.prog W 0 (fun _ => true) true Try.f9.params.toList args.toList ds p := hA0
  rw [Try.params9] at hA hval
  obtain ⟨v0, vs0, d0, ds0, p0, q0, hargs, rfl, rfl, h0, r0⟩ := trodAll_cons hA
  obtain ⟨rfl, rfl, rfl⟩ := trodAll_nil r0
  obtain rfl : args = #[v0] := by cases args; simp_all
  obtain ⟨rfl, rfl⟩ := trodVars_none hV
  obtain ⟨a0, len0, cap0, rfl⟩ := okWide_slice Try.underlying22 (hval 0 22 v0 rfl rfl)
  have k0 := h0
  have lt0 : ∀ x ∈ p0, x.block < W.heap.size := by obtain ⟨m, hm⟩ := k0; exact DataW.trod_lt m _ _ _ hm
  obtain ⟨z0, w0⟩ : ∃ zs, IsRow .u8 W a0 len0 cap0 zs := by
    obtain ⟨fuel, hf⟩ := h0
    rcases open_ints Try.underlying22 Try.underlying5 (by kernel_rfl) hf with ⟨hcs, _⟩ | ⟨x, l, c, zs, hcs, _, hl, hm, hz, _, hcell, hwz⟩
    · simp [Value.cells] at hcs
      obtain ⟨rfl, rfl, rfl⟩ := hcs
      exact ⟨[], .inl ⟨rfl, rfl, rfl, rfl⟩⟩
    · simp [Value.cells] at hcs
      obtain ⟨rfl, rfl, rfl⟩ := hcs
      exact ⟨zs, .inr ⟨_, rfl, hl, hm, by simpa using hz, hcell, hwz⟩⟩
  clear hA0 hval0
  have hw : Calls Try.prog 9 #[.slice a0 len0 cap0] W fun e w' => e = .returned (.bool true) ∧ Below W.heap.size W w' := by
    by_cases hl : len0 ≤ 1048576
    · exact walk len0 cap0 a0 W hl (Lib.hid (code_of_row w0 hl))
    · exact walk_long len0 cap0 a0 W (by omega)
  refine hw.mono fun e W' ⟨he, bel⟩ => ?_
  subst he
  exact ⟨_, rfl, _, _, _, [], _, [], hW', trodAll_mk1 (shut_bool Try.underlying4 _), (trodAll_cons_mk (Below.trod laidOut (by kernel_rfl) (of_decide_eq_true (by kernel_rfl)) k0 bel lt0) trodAll_mk0), rfl, bel.frame _, fun h => by cases h⟩

theorem over : Rows.fnShareNetRow.holds Try.pinned (OpenSpec.ofChange Rows.fnShareNetSpec) :=
  OpenClaim.holds_of_wide 9 Try.f9 rfl rfl rfl rfl rfl rfl rfl ⟨rfl, rfl, rfl, rfl, rfl⟩ rfl rfl rfl rfl rfl (by kernel_rfl) Try.func9 (by kernel_rfl)
    (of_decide_eq_true (by kernel_rfl)) (by unfold Func.isWrapper; first | (rw [if_pos (by decide +kernel)]; kernel_rfl) | (rw [if_neg (by decide +kernel)]; exact ⟨rfl, rfl⟩))
    (fun os started H enc _ => lifted os started H enc)

theorem proved : Rows.FnShareNetSaid := over
end Go.Proofs.Ytjfbkafekkbcdaa.fnShareNet

