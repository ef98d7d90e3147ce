/-
  For every code the law FnLoopOf returns true: impl.LoopOf answers as the reference model does; the loop begins with the run itself, its other runs are in the first tree, none is twice in it, and its error is what the run's rise differs from that of the tree's heights. No condition: every list of bytes is taken.
-/
import Derived.Test.YtimghdffmdcheaaLv
import Derived.Test.YtimghdffmdcheaaDNm
import Derived.Test.YtimghdffmdcheaaCode
namespace Go.Proofs.Ytimghdffmdcheaa.fnLoopOf
open Go.ChangeShapes Go.WideShapes Go.ChangeAt Go.RowKit
set_option linter.unusedVariables false

theorem runs_same {w W : World} {p : Option Addr} {rs : List Rn} (h : Runs w p rs) (hc : ∀ b o, W.cell? ⟨b, o, none⟩ = w.cell? ⟨b, o, none⟩) (hs : W.heap.size = w.heap.size) : Runs W p rs := by
  rcases h with rfl | ⟨B, o, rfl, hB, hx⟩
  · exact .inl rfl
  · refine .inr ⟨B, o, rfl, by omega, fun i r hi => ?_⟩
    obtain ⟨h1, h2, h3, h4⟩ := hx i r hi
    exact ⟨(hc _ _).trans h1, (hc _ _).trans h2, (hc _ _).trans h3, (hc _ _).trans h4⟩
theorem ints_same {w W : World} {p : Option Addr} {zs : List Int} (h : Ints w p zs) (hc : ∀ b o, W.cell? ⟨b, o, none⟩ = w.cell? ⟨b, o, none⟩) (hs : W.heap.size = w.heap.size) : Ints W p zs := by
  rcases h with rfl | ⟨B, o, rfl, hB, hx⟩
  · exact .inl rfl
  · exact .inr ⟨B, o, rfl, by omega, fun i z hi => (hc _ _).trans (hx i z hi)⟩
theorem ht_bound {N : Nat} {us : List Rn} {L : List Int} (hw : nWhole N us = true) (h : IsHt N us L) : ∀ (i : Nat) (z : Int), L[i]? = some z → -600000 ≤ z ∧ z ≤ 600000 := by
  have hn := (whole_iff.1 hw).1
  obtain ⟨h2, h6, -, -⟩ := nOk_true hn
  exact ht_low (by omega) (by omega) (nOk_ends hn) (fun i hi => whole_same hw hi) h (fun r hr => by
    obtain ⟨i, hi⟩ := List.getElem?_of_mem hr
    obtain ⟨-, -, -, -, -, a, b, -⟩ := rOk_true ((nOk_true hn).2.2.2 i r hi)
    exact ⟨a, b⟩)
theorem ix_two {Z : List Int} (h : (Z.map ix).Nodup) {i j : Nat} {x y : Int} (hx : Z[i]? = some x) (hy : Z[j]? = some y) (hij : i ≠ j) : ix x ≠ ix y := fun e => by
  have h1 : (Z.map ix)[i]? = some (ix x) := by rw [List.getElem?_map, hx]; rfl
  have h2 : (Z.map ix)[j]? = some (ix x) := by rw [List.getElem?_map, hy, e]; rfl
  obtain ⟨l1, e1⟩ := List.getElem?_eq_some_iff.1 h1
  obtain ⟨l2, e2⟩ := List.getElem?_eq_some_iff.1 h2
  have hp := List.pairwise_iff_getElem.1 h
  rcases Nat.lt_or_gt_of_ne hij with hlt | hlt
  · exact hp i j l1 l2 hlt (e1.trans e2.symm)
  · exact hp j i l2 l1 hlt (e2.trans e1.symm)

set_option maxHeartbeats 8000000 in
set_option maxRecDepth 100000 in
theorem walk (len cap : Nat) (p : Option Addr) (w : World) (hl : len ≤ 1048576) (h : Hid (Code' w (.slice p len cap))) :
    Calls Try.prog 5 #[.slice p len cap] w fun e w' => e = .returned (.bool true) ∧ Below w.heap.size w w' := by
  have hl' : ¬ (1048576 : Int) < (len : Int) := by omega
  go_enter Try.func5, Try.ntmps5
  go_upto_region 4 with (go_at_call 25; (with_reducible refine (drawLoopOf_is _ _ h).mono ?_); rintro e wd ⟨N, m, rs, P, k, ⟨c, rfl⟩, hmm, ⟨⟨hN2, hN6⟩, hm8, hR, hb_wd⟩, hk1, hk8⟩; have hs_wd := hb_wd.size; have HR := Lib.hid hR; have HM := Lib.hid hmm; clear hR hmm)
  clear h
  have hm8' : m ≤ 8 := by have := HM.out; omega
  by_cases hbs : Beside N rs k
  · obtain ⟨k', rfl⟩ : ∃ k' : Nat, k = (k' : Int) := ⟨k.toNat, by have := hbs.2.1.1; omega⟩
    have hw := hbs.1
    have hkm : k' < m := by have := hbs.2.1.2; have := HM.out; omega
    have hk' : (k' : Int) ∉ firstT N rs rs.length := by have := hbs.2.2; rwa [Int.toNat_natCast] at this
    have ht := first_tree hw
    obtain ⟨Z, hZ⟩ : ∃ Z, loopT N rs k' = Z := ⟨_, rfl⟩
    obtain ⟨T, hT⟩ : ∃ T, firstT N rs rs.length = T := ⟨_, rfl⟩
    obtain ⟨l, hll⟩ : ∃ l, Z.length = l := ⟨_, rfl⟩
    have hL := loopT_is hw (k := k') (by have := HM.out; omega)
    obtain ⟨hnd, hin⟩ := loopT_runs hw (k := k') (by have := HM.out; omega) hk'
    have hsum := fun H (hH : IsHt N (sub rs T) H) => loopT_sum (H := H) hw (k := k') (by have := HM.out; omega) (by rw [hT]; exact hH)
    have hz0 : Z[0]? = some ((k' : Int) + 1) := by rw [← hZ]; rfl
    have c1 := fun w h => Lib.hid (iLoopOf_yes N m k' (some ⟨P, 0, none⟩) c rs w h HM.out hbs)
    have c2 := fun w h => Lib.hid (sLoopOf_yes N m k' (some ⟨P, 0, none⟩) c rs w h HM.out hbs)
    have c3 := fun w h => Lib.hid (iFirst_yes N m (some ⟨P, 0, none⟩) c rs w h HM.out hw)
    rw [hT] at ht hin c3
    have htw := ht.whole
    have HTl : Hid (T.length ≤ 6) := Lib.hid (by have := ht.len; omega)
    have c4 := fun (K d : Nat) (q : Option Addr) w h hq hK => Lib.hid (iTreeHeights_yes N m K (some ⟨P, 0, none⟩) q c d rs T w h hq HM.out hK ht)
    rw [hZ] at hL hnd hin hsum c1 c2
    have hl12 : l ≤ 12 := by rw [← hll]; exact hL.most
    have hl1 : 1 ≤ l := by rw [← hll]; exact hL.one
    have c5 := fun (d : Nat) (q : Option Addr) w h hq => Lib.hid (iLoopError_yes N m l (some ⟨P, 0, none⟩) q c d rs Z w h hq HM.out hll (isL_true.2 hL))
    have c6 := fun (d : Nat) (q : Option Addr) w h hq => Lib.hid (iLoopIs N m l (some ⟨P, 0, none⟩) q c d rs Z true w h hq HM.out hll (by omega) (by omega) (isL_true.2 hL))
    have HN := Lib.hid (And.intro hnd (And.intro hin (And.intro hz0 (And.intro hll (And.intro hw htw)))))
    have HS := Lib.hid hsum
    have hrz : Hid (∀ z ∈ Z, -12 ≤ z ∧ z ≤ 12) := Lib.hid (fun z hz => by have := hL.rng z hz; have := HM.out; omega)
    obtain ⟨s, hs⟩ : ∃ s, lsum rs Z = s := ⟨_, rfl⟩
    rw [hs] at c5
    have HE := Lib.hid hs
    clear hnd hin hz0 hll hw htw hsum hL ht hbs hk' hZ hT hs
    go_upto_region 11 with (first | ((go_at_call 26; (with_reducible refine ((c1 _ ?_).out).mono ?_); (focus ((exact HR.out); done)); rintro e wi ⟨g, l1, cg, rfl, hg, ho, hb_wi⟩; have hs_wi := hb_wi.size; (try simp at hs_wi)); obtain rfl : l1 = l := (by have h1 := ho.len; have h2 := HN.out.2.2.2.1; omega); have HO := Lib.hid ho; clear ho) | ((go_at_call 27; (with_reducible refine ((c2 _ ?_).out).mono ?_); (focus ((exact HR.out.below hb_wi); done)); rintro e ws ⟨g2, l2, cg2, rfl, hg2, ho2, hb_ws⟩; have hs_ws := hb_ws.size; (try simp at hs_ws)); obtain rfl : l2 = l1 := (by have h1 := ho2.len; have h2 := HN.out.2.2.2.1; omega); have HO2 := Lib.hid ho2; clear ho2) | (go_at_call 24; (with_reducible refine (sameInts_at HN.out.2.2.2.1 _ _ _ _ _ ?_ ?_ (by omega)).mono ?_); (focus ((exact (HO.out.below (by repeat (first | assumption | exact Below.refl _ _ | (refine below_chain ?_ (by assumption) (by first | omega | (simp <;> omega) | simp)) | (refine Below.alloc ?_ (by first | omega | (simp <;> omega) | simp) _) | (apply below_drewN) | (apply below_drew) | (refine Below.setCell ?_ (by first | omega | (simp <;> omega) | simp) _)))).ints); done)); (focus ((exact HO2.out.ints); done)); rintro e wt ⟨rfl, hb_wt⟩; have hs_wt := hb_wt.size; (try simp at hs_wt)) | ((go_at_call 28; (with_reducible refine ((c3 _ ?_).out).mono ?_); (focus ((exact HR.out.below (by repeat (first | assumption | exact Below.refl _ _ | (refine below_chain ?_ (by assumption) (by first | omega | (simp <;> omega) | simp)) | (refine Below.alloc ?_ (by first | omega | (simp <;> omega) | simp) _) | (apply below_drewN) | (apply below_drew) | (refine Below.setCell ?_ (by first | omega | (simp <;> omega) | simp) _)))); done)); rintro e wf ⟨gf, cf, K, rfl, hK, hgf, of, hb_wf⟩; have hs_wf := hb_wf.size; (try simp at hs_wf)); have OF := Lib.hid (And.intro hK of); clear hK of) | ((go_at_call 29; (with_reducible refine ((c4 _ _ _ _ ?_ ?_ ?_).out).mono ?_); (focus ((exact HR.out.below (by repeat (first | assumption | exact Below.refl _ _ | (refine below_chain ?_ (by assumption) (by first | omega | (simp <;> omega) | simp)) | (refine Below.alloc ?_ (by first | omega | (simp <;> omega) | simp) _) | (apply below_drewN) | (apply below_drew) | (refine Below.setCell ?_ (by first | omega | (simp <;> omega) | simp) _)))); done)); (focus ((exact OF.out.2.ints); done)); (focus ((exact OF.out.1); done)); rintro e wh ⟨L, gh, rfl, hht, hgh, oh, hb_wh⟩; have hs_wh := hb_wh.size; (try simp at hs_wh)); have OH := Lib.hid (And.intro hht oh); clear hht oh) | ((go_at_call 18; (with_reducible refine ((c5 _ _ _ ?_ ?_).out).mono ?_); (focus ((exact HR.out.below (by repeat (first | assumption | exact Below.refl _ _ | (refine below_chain ?_ (by assumption) (by first | omega | (simp <;> omega) | simp)) | (refine Below.alloc ?_ (by first | omega | (simp <;> omega) | simp) _) | (apply below_drewN) | (apply below_drew) | (refine Below.setCell ?_ (by first | omega | (simp <;> omega) | simp) _)))); done)); (focus ((exact (HO.out.below (by repeat (first | assumption | exact Below.refl _ _ | (refine below_chain ?_ (by assumption) (by first | omega | (simp <;> omega) | simp)) | (refine Below.alloc ?_ (by first | omega | (simp <;> omega) | simp) _) | (apply below_drewN) | (apply below_drew) | (refine Below.setCell ?_ (by first | omega | (simp <;> omega) | simp) _)))).ints); done)); rintro e we ⟨rfl, hb_we⟩; have hs_we := hb_we.size; (try simp at hs_we))))
    have hBh : Below wh.heap.size wh we := hb_we
    have hBf : Below wf.heap.size wf we := (by repeat (first | assumption | exact Below.refl _ _ | (refine below_chain ?_ (by assumption) (by first | omega | (simp <;> omega) | simp)) | (refine Below.alloc ?_ (by first | omega | (simp <;> omega) | simp) _) | (apply below_drewN) | (apply below_drew) | (refine Below.setCell ?_ (by first | omega | (simp <;> omega) | simp) _)))
    have hBi : Below wi.heap.size wi we := (by repeat (first | assumption | exact Below.refl _ _ | (refine below_chain ?_ (by assumption) (by first | omega | (simp <;> omega) | simp)) | (refine Below.alloc ?_ (by first | omega | (simp <;> omega) | simp) _) | (apply below_drewN) | (apply below_drew) | (refine Below.setCell ?_ (by first | omega | (simp <;> omega) | simp) _)))
    have hBd : Below wd.heap.size wd we := (by repeat (first | assumption | exact Below.refl _ _ | (refine below_chain ?_ (by assumption) (by first | omega | (simp <;> omega) | simp)) | (refine Below.alloc ?_ (by first | omega | (simp <;> omega) | simp) _) | (apply below_drewN) | (apply below_drew) | (refine Below.setCell ?_ (by first | omega | (simp <;> omega) | simp) _)))
    have HX := Lib.hid (And.intro (HR.out.below hBd) (And.intro (HO.out.below hBi) (And.intro (OF.out.2.below hBf) (And.intro (OH.out.2.below hBh) (hb_wd.trans (hBd.mono hs_wd))))))
    have HK := Lib.hid (And.intro OF.out.1 OH.out.1)
    have hsW := HX.out.2.2.2.2.size
    have hK6 : K ≤ 6 := by have h1 := HTl.out; have h2 := HK.out.1; omega
    have hgl := HX.out.2.1.lt
    have hfl := HX.out.2.2.1.lt
    have hhl := HX.out.2.2.2.1.lt
    clear hb_wd hb_wi hb_ws hb_wt hb_wf hb_wh hb_we hBh hBf hBi hBd HR HO HO2 OF OH c1 c2 c3 c4 c5
    go_wp2_with fail
    go_loopw [16] (fun i wr => ∃ j : Nat, j ≤ l2 ∧ i = .int .i64 j ∧ Below we.heap.size we wr) (fun i _ => l2 - (intOf i).toNat)
    case atStart => exact ⟨0, Nat.zero_le _, rfl, Below.refl _ _⟩
    case round =>
      obtain ⟨j, hj, rfl, hbr⟩ := hrel
      have hbs := hbr.size
      have hglr : g < wr.heap.size := by omega
      by_cases hlt : j < l2
      · obtain ⟨z, hz⟩ : ∃ z, Z[j]? = some z := ⟨_, List.getElem?_eq_getElem (by have := HN.out.2.2.2.1; omega)⟩
        obtain ⟨z0, z1⟩ := hrz.out z (List.mem_of_getElem? hz)
        have e0 := (HX.out.2.1.below hbr).cells hz
        have hlt' : (j : Int) < (l2 : Int) := by omega
        have HJ := Lib.hid (And.intro hz hbr)
        clear hz hbr
        go_wp2_with fail
        (refine wp_region_grows (by kernel_rfl) (by kernel_rfl) ?_; intro W_wg hWc_wg hWs_wg hWe_wg; (repeat (go_big_quiet_step (fail))); with_reducible refine wpQuiet_nil ?_; clear hWe_wg hWs_wg hWc_wg W_wg; intro wg hb_wg; obtain ⟨hc_wg, hf_wg⟩ := bcell hb_wg; (try simp only [World.size_drew, World.cell?_drew, World.frozen?_drew, World.heap_drewN, World.cell?_drewN, World.frozen?_drewN] at hc_wg hf_wg); have hs_wg := hb_wg.size; (try simp at hs_wg))
        obtain ⟨M, hM⟩ : ∃ M, (if z < -z then -z else z) = M := ⟨_, rfl⟩
        obtain ⟨x, hx⟩ : ∃ x, ix z = x := ⟨_, rfl⟩
        have hxe : M - 1 = x := by rw [← hM, ← hx]; unfold ix; split <;> omega
        rw [hM, hxe]
        clear hM
        have HI := Lib.hid hx
        have HG : Hid (Below we.heap.size we wg) := Lib.hid (HJ.out.2.trans (hb_wg.mono hbs))
        have hsg := HG.out.size
        have hgg : g < wg.heap.size := by omega
        have hfg : gf < wg.heap.size := by omega
        clear hxe hx hc_wg hf_wg e0 z0 z1 hb_wg hs_wg hglr
        go_wp2_with fail
        go_loopw [18, 19] (fun v t wz => ∃ (q : Nat) (b : Bool), q ≤ K ∧ t = .int .i64 q ∧ v = .bool b ∧ (b = true ↔ x ∈ T.take q) ∧ wg = wz) (fun _ t _ => K - (intOf t).toNat)
        case atStart => exact ⟨0, false, Nat.zero_le _, rfl, rfl, by simp, rfl⟩
        case round =>
          obtain ⟨q, b, hq, rfl, rfl, hb, rfl⟩ := hrel
          by_cases hqt : q < K
          · obtain ⟨y, hy⟩ : ∃ y, T[q]? = some y := ⟨_, List.getElem?_eq_getElem (by have := HK.out.1; omega)⟩
            have e1 := (HX.out.2.2.1.below HG.out).cells hy
            have hqt' : (q : Int) < (K : Int) := by omega
            have htk : T.take (q + 1) = T.take q ++ [y] := by rw [List.take_add_one, hy]; rfl
            have HB := Lib.hid (And.intro hb htk)
            clear hb htk hy
            cases b
            · go_wp2_with fail
              go_roundw
              case rel => exact ⟨q + 1, y == x, by omega, by go_num, rfl, by
                rw [HB.out.2]
                have h := HB.out.1
                constructor
                · intro h1; simp at h1; subst h1; simp
                · intro h1
                  rcases List.mem_append.1 h1 with h2 | h2
                  · exact absurd (h.2 h2) (by simp)
                  · simp at h2; subst h2; simp, by first | trivial | rfl⟩
              case measure => simp [intOf]; omega
            · go_wp2_with fail
              go_roundw
              case rel => exact ⟨q + 1, true, by omega, by go_num, rfl, by
                rw [HB.out.2]
                exact ⟨fun _ => List.mem_append_left _ (HB.out.1.1 rfl), fun _ => rfl⟩, by first | trivial | rfl⟩
              case measure => simp [intOf]; omega
          · have e : q = K := by omega
            subst e
            rw [List.take_of_length_le (Nat.le_of_eq HK.out.1)] at hb
            have hbj : b = decide ((j : Int) > 0) := by
              have h1 := HN.out.2.1 j z HJ.out.1
              rw [HI.out] at h1
              rw [h1] at hb
              cases b
              · exact (decide_eq_false (fun h => by have := hb.2 (by omega); cases this)).symm
              · exact (decide_eq_true (by have := hb.1 rfl; omega)).symm
            clear hb hqt hq
            have hjb : (b = true ∧ (0 : Int) < (j : Int) ∧ 0 < j) ∨ (b = false ∧ ¬ (0 : Int) < (j : Int) ∧ ¬ 0 < j) := by
              by_cases h : (0 : Int) < (j : Int)
              · exact .inl ⟨by rw [hbj]; exact decide_eq_true h, h, by omega⟩
              · exact .inr ⟨by rw [hbj]; exact decide_eq_false h, h, by omega⟩
            clear hbj
            obtain ⟨rfl, hj0, hj1⟩ | ⟨rfl, hj0, hj1⟩ := hjb
            all_goals
              go_wp2_with fail
              go_loopw [20] (fun t wz => ∃ a : Nat, a ≤ j ∧ t = .int .i64 a ∧ Below we.heap.size we wz) (fun t _ => j - (intOf t).toNat)
              case atStart => exact ⟨0, Nat.zero_le _, rfl, HG.out⟩
              case round =>
                clear HG
                rename World => wz
                obtain ⟨a, ha, rfl, hbz⟩ := hrel
                have hsz := hbz.size
                have hgz : g < wz.heap.size := by omega
                by_cases haj : a < j
                · clear hj0 hj1
                  obtain ⟨y, hy⟩ : ∃ y, Z[a]? = some y := ⟨_, List.getElem?_eq_getElem (by have := HN.out.2.2.2.1; omega)⟩
                  obtain ⟨y0, y1⟩ := hrz.out y (List.mem_of_getElem? hy)
                  have e2 := (HX.out.2.1.below hbz).cells hy
                  have haj' : (a : Int) < (j : Int) := by omega
                  have hal : (a : Int) < (l2 : Int) := by omega
                  have hxy : ¬ ix y = x := by rw [← HI.out]; exact ix_two HN.out.1 hy HJ.out.1 (by omega)
                  obtain ⟨M2, hM2⟩ : ∃ M, (if y < -y then -y else y) = M := ⟨_, rfl⟩
                  have hxe : ¬ M2 - 1 = x := by
                    rw [← hM2]
                    unfold ix at hxy
                    intro h
                    apply hxy
                    rw [← h]
                    split <;> omega
                  have HZ := Lib.hid hbz
                  clear hy hxy hbz
                  go_wp2_with fail
                  (refine wp_region_grows (by kernel_rfl) (by kernel_rfl) ?_; intro W_wk hWc_wk hWs_wk hWe_wk; (repeat (go_big_quiet_step (fail))); with_reducible refine wpQuiet_nil ?_; clear hWe_wk hWs_wk hWc_wk W_wk; intro wk hb_wk; obtain ⟨hc_wk, hf_wk⟩ := bcell hb_wk; (try simp only [World.size_drew, World.cell?_drew, World.frozen?_drew, World.heap_drewN, World.cell?_drewN, World.frozen?_drewN] at hc_wk hf_wk); have hs_wk := hb_wk.size; (try simp at hs_wk))
                  go_wp2_with fail
                  go_roundw
                  case rel => exact ⟨a + 1, by omega, by go_num, HZ.out.trans (hb_wk.mono hsz)⟩
                  case measure => simp [intOf]; omega
                · have e : a = j := by omega
                  subst e
                  go_wp2_with fail
                  go_roundw
                  case rel => exact ⟨a + 1, by omega, by go_num, hbz⟩
                  case measure => simp [intOf]; omega
      · have e : j = l2 := by omega
        subst e
        obtain ⟨B, o, r, eq, hr, hB, x0, x1, x2, x3⟩ := (HX.out.1.below hbr).at (i := k') (by have := HM.out; omega)
        cases eq
        simp only [Nat.zero_add] at x0 x1 x2
        have er' : runOf rs (k' : Int) = r := by unfold runOf; simp [hr]
        obtain ⟨q0, q1, q2, q3⟩ := nOk_ends (whole_ok HN.out.2.2.2.2.1) r (List.mem_of_getElem? hr)
        obtain ⟨s0, s1⟩ := isL_sums (whole_ok HN.out.2.2.2.2.1) r (List.mem_of_getElem? hr)
        have hLN := HK.out.2.len
        have v1 := htAt_get (L := L) q0 (by omega)
        have v2 := htAt_get (L := L) q2 (by omega)
        have hse := HS.out L HK.out.2
        rw [er', HE.out] at hse
        obtain ⟨u, hu⟩ : ∃ u, htAt L r.f = u := ⟨_, rfl⟩
        obtain ⟨v, hv⟩ : ∃ v, htAt L r.t = v := ⟨_, rfl⟩
        obtain ⟨σ, hσ⟩ : ∃ σ, r.s = σ := ⟨_, rfl⟩
        obtain ⟨a, ha⟩ : ∃ a : Nat, r.f = (a : Int) := ⟨r.f.toNat, by omega⟩
        obtain ⟨b, hb⟩ : ∃ b : Nat, r.t = (b : Int) := ⟨r.t.toNat, by omega⟩
        rw [hu] at v1 hse
        rw [hv] at v2 hse
        rw [hσ] at x2 hse s0 s1
        rw [ha] at x0 v1
        rw [hb] at x1 v2
        rw [Int.toNat_natCast] at v1 v2
        have haN : a < N := by omega
        have hbN : b < N := by omega
        obtain ⟨u0, u1⟩ := ht_bound HN.out.2.2.2.2.2 HK.out.2 _ _ v1
        obtain ⟨w0, w1⟩ := ht_bound HN.out.2.2.2.2.2 HK.out.2 _ _ v2
        have hhr : gh < wr.heap.size := by omega
        have e1 := (HX.out.2.2.2.1.below hbr).cells v1
        have e2 := (HX.out.2.2.2.1.below hbr).cells v2
        have e0 := (HX.out.2.1.below hbr).cells HN.out.2.2.1
        have c7 : ∀ W : World, (∀ b o, W.cell? ⟨b, o, none⟩ = wr.cell? ⟨b, o, none⟩) → W.heap.size = wr.heap.size → ∀ d : Ext W, Hid (Calls Try.prog 16 #[.int .i64 N, .slice (some ⟨P, 0, none⟩) m c, .slice (some ⟨g, 0, none⟩) j cg] d.now fun e w' => e = .returned (.bool true) ∧ Below d.now.heap.size d.now w') := fun W hc hs d => c6 cg (some ⟨g, 0, none⟩) d.now ((runs_same (HX.out.1.below hbr) hc hs).below d.grown) ((ints_same ((HX.out.2.1.below hbr).ints) hc hs).below d.grown)
        have HC := Lib.hid c7
        have hBf : Hid (Below w.heap.size w wr) := Lib.hid (HX.out.2.2.2.2.trans (hbr.mono hsW))
        have hl0 : (0 : Int) < (j : Int) := by omega
        have hkm' : (k' : Int) < (m : Int) := by omega
        subst hse
        clear c6 c7 hr er' q0 q1 q2 q3 v1 v2 hu hv hσ ha hb hbr HX HN HS HK HE
        go_wp2_with fail
        (refine wp_region_grows (by kernel_rfl) (by kernel_rfl) ?_; intro W_wg hWc_wg hWs_wg hWe_wg; (repeat (go_big_quiet_step ((go_at_call 16; with_reducible exact Ext.call ((HC.out _ hWc_wg hWs_wg _).out))))); with_reducible refine wpQuiet_nil ?_; clear hWe_wg hWs_wg hWc_wg W_wg; intro wg hb_wg; obtain ⟨hc_wg, hf_wg⟩ := bcell hb_wg; (try simp only [World.size_drew, World.cell?_drew, World.frozen?_drew, World.heap_drewN, World.cell?_drewN, World.frozen?_drewN] at hc_wg hf_wg); have hs_wg := hb_wg.size; (try simp at hs_wg))
        go_wp2_with fail
        go_ret
        exact ⟨rfl, hBf.out.trans (hb_wg.mono (by have := hBf.out.size; omega))⟩
  · have c1 := fun w h => Lib.hid (iLoopOf_no N m k (some ⟨P, 0, none⟩) c rs w h HM.out (by omega) hbs)
    have c2 := fun w h => Lib.hid (sLoopOf_no N m k (some ⟨P, 0, none⟩) c rs w h HM.out (by omega) hbs)
    clear hbs
    go_wp2_with (first | (go_at_call 26; (with_reducible refine ((c1 _ ?_).out).mono ?_); (focus ((exact HR.out); done)); rintro e wi ⟨rfl, hb_wi⟩; have hs_wi := hb_wi.size; (try simp at hs_wi)) | (go_at_call 27; (with_reducible refine ((c2 _ ?_).out).mono ?_); (focus ((exact HR.out.below hb_wi); done)); rintro e ws ⟨⟨g, rfl⟩, hb_ws⟩; have hs_ws := hb_ws.size; (try simp at hs_ws)) | (go_at_call 24; (with_reducible refine (sameInts_nil _ _ _ _ _).mono ?_); rintro e wt ⟨rfl, hb_wt⟩; have hs_wt := hb_wt.size; (try simp at hs_wt)))
    go_ret
    exact ⟨rfl, (by repeat (first | assumption | exact Below.refl _ _ | (refine below_chain ?_ (by assumption) (by first | omega | (simp <;> omega) | simp)) | (refine Below.alloc ?_ (by first | omega | (simp <;> omega) | simp) _) | (apply below_drewN) | (apply below_drew) | (refine Below.setCell ?_ (by first | omega | (simp <;> omega) | simp) _)))⟩

set_option maxRecDepth 100000 in
theorem walk_long (len cap : Nat) (p : Option Addr) (w : World) (hl : 1048576 < len) :
    Calls Try.prog 5 #[.slice p len cap] w fun e w' => e = .returned (.bool true) ∧ Below w.heap.size w w' := by
  have hl' : (1048576 : Int) < (len : Int) := by omega
  go_enter Try.func5, Try.ntmps5
  go_wp2
  go_ret
  exact ⟨rfl, Below.refl _ _⟩

set_option maxRecDepth 100000 in
theorem lifted (os : Os) (started : os.Started) (H : Type) (enc : TypeId × Value → H) :
    ReturnsInHanded {} Try.checked os 5 .any (Rows.fnLoopOfSpec.pre6 enc Try.prog Try.f5 Rows.fnLoopOfRow.domain false) (Rows.fnLoopOfSpec.post enc Try.prog Try.f5 false true false false) := by
  refine returnsInHanded_of_change (C := Try.checked) own started (by kernel_rfl) Try.func5
    (ChangeSpec.witness6 (enc := enc) (C := Try.checked) false ⟨#[], #[.slice none 0 0], []⟩ 8 (by kernel_rfl) (by kernel_rfl) (by kernel_rfl) (by kernel_rfl)) ?_
  intro W base args ds gs before hval0 hW hcnd _
  have hval : ∀ (j : Nat) t v, Try.f5.params[j]? = some t → args[j]? = some v → Value.okWide Try.prog W .any base t v := hval0
  have hW' := hW
  obtain ⟨p, q, hA0, hV, rfl, hfz, hnd⟩ := hW
  have hA : DataW.TrodAll enc Try.prog W 0 (fun _ => true) true Try.f5.params.toList args.toList ds p := hA0
  rw [Try.params5] at hA hval
  obtain ⟨v0, vs0, d0, ds0, p0, q0, hargs, rfl, rfl, h0, r0⟩ := trodAll_cons hA
  obtain ⟨rfl, rfl, rfl⟩ := trodAll_nil r0
  obtain rfl : args = #[v0] := by cases args; simp_all
  obtain ⟨rfl, rfl⟩ := trodVars_none hV
  obtain ⟨a0, len0, cap0, rfl⟩ := okWide_slice Try.underlying22 (hval 0 22 v0 rfl rfl)
  have k0 := h0
  have lt0 : ∀ x ∈ p0, x.block < W.heap.size := by obtain ⟨m, hm⟩ := k0; exact DataW.trod_lt m _ _ _ hm
  obtain ⟨z0, w0⟩ : ∃ zs, IsRow .u8 W a0 len0 cap0 zs := by
    obtain ⟨fuel, hf⟩ := h0
    rcases open_ints Try.underlying22 Try.underlying5 (by kernel_rfl) hf with ⟨hcs, _⟩ | ⟨x, l, c, zs, hcs, _, hl, hm, hz, _, hcell, hwz⟩
    · simp [Value.cells] at hcs
      obtain ⟨rfl, rfl, rfl⟩ := hcs
      exact ⟨[], .inl ⟨rfl, rfl, rfl, rfl⟩⟩
    · simp [Value.cells] at hcs
      obtain ⟨rfl, rfl, rfl⟩ := hcs
      exact ⟨zs, .inr ⟨_, rfl, hl, hm, by simpa using hz, hcell, hwz⟩⟩
  clear hA0 hval0
  have hw : Calls Try.prog 5 #[.slice a0 len0 cap0] W fun e w' => e = .returned (.bool true) ∧ Below W.heap.size W w' := by
    by_cases hl : len0 ≤ 1048576
    · exact walk len0 cap0 a0 W hl (Lib.hid (code_of_row w0 hl))
    · exact walk_long len0 cap0 a0 W (by omega)
  refine hw.mono fun e W' ⟨he, bel⟩ => ?_
  subst he
  exact ⟨_, rfl, _, _, _, [], _, [], hW', trodAll_mk1 (shut_bool Try.underlying4 _), (trodAll_cons_mk (Below.trod laidOut (by kernel_rfl) (of_decide_eq_true (by kernel_rfl)) k0 bel lt0) trodAll_mk0), rfl, bel.frame _, fun h => by cases h⟩

theorem over : Rows.fnLoopOfRow.holds Try.pinned (OpenSpec.ofChange Rows.fnLoopOfSpec) :=
  OpenClaim.holds_of_wide 5 Try.f5 rfl rfl rfl rfl rfl rfl rfl ⟨rfl, rfl, rfl, rfl, rfl⟩ rfl rfl rfl rfl rfl (by kernel_rfl) Try.func5 (by kernel_rfl)
    (of_decide_eq_true (by kernel_rfl)) (by unfold Func.isWrapper; first | (rw [if_pos (by decide +kernel)]; kernel_rfl) | (rw [if_neg (by decide +kernel)]; exact ⟨rfl, rfl⟩))
    (fun os started H enc _ => lifted os started H enc)

theorem proved : Rows.FnLoopOfSaid := over
end Go.Proofs.Ytimghdffmdcheaa.fnLoopOf

