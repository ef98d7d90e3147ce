/-
  For every code the law FnShare returns true: impl.ShareOf answers as the reference model does; ShareOk holds for its shares, lengths of 0 have the share 0, of two lengths the greater one has no lesser share for an amount that is not negative, and multiples of the sum of all lengths are shared exactly. No condition: every list of bytes is taken.
-/
import Derived.Test.YtjfbkafekkbcdaaSi
import Derived.Test.YtjfbkafekkbcdaaSj
import Derived.Test.YtjfbkafekkbcdaaDSz
namespace Go.Proofs.Ytjfbkafekkbcdaa.fnShare
open Go.ChangeShapes Go.WideShapes Go.ChangeAt Go.RowKit
set_option linter.unusedVariables false

set_option maxHeartbeats 8000000 in
set_option maxRecDepth 100000 in
theorem walk (len cap : Nat) (p : Option Addr) (w : World) (hl : len ≤ 1048576) (h : Hid (Code' w (.slice p len cap))) :
    Calls Try.prog 3 #[.slice p len cap] w fun e w' => e = .returned (.bool true) ∧ Below w.heap.size w w' := by
  have hl' : ¬ (1048576 : Int) < (len : Int) := by omega
  go_enter Try.func3, Try.ntmps3
  go_upto_region 4 with (go_at_call 14; (with_reducible refine (drawShareOf_is _ _ h).mono ?_); rintro e wd ⟨ls, n, P, c, a, rfl, ⟨hln, hn6⟩, ⟨ha0, ha1⟩, hwP, ho, hb_wd⟩; have hs_wd := hb_wd.size; have HR := Lib.hid ho; have HM := Lib.hid hln; have hPl := ho.lt; clear ho hln)
  clear h
  obtain ⟨b, hb⟩ : ∃ b, amtOk ls a = b := ⟨_, rfl⟩
  cases b
  · have c1 := fun w h => Lib.hid (iShareOf_no n c (some ⟨P, 0, none⟩) ls a w h HM.out (by omega) hb)
    have c2 := fun w h => Lib.hid (sShareOf_no n c (some ⟨P, 0, none⟩) ls a w h HM.out (by omega) hb)
    clear hb
    go_wp2_with (first | (go_at_call 15; (with_reducible refine ((c1 _ ?_).out).mono ?_); (focus ((exact HR.out.ints); done)); rintro e wi ⟨⟨q, d, rfl⟩, hb_wi⟩; have hs_wi := hb_wi.size; (try simp at hs_wi)) | (go_at_call 16; (with_reducible refine ((c2 _ ?_).out).mono ?_); (focus ((exact HR.out.ints.below hb_wi); done)); rintro e ws ⟨⟨g, rfl⟩, hb_ws⟩; have hs_ws := hb_ws.size; (try simp at hs_ws)) | (go_at_call 17; (with_reducible refine (sameInts_nil _ _ _ _ _).mono ?_); rintro e wt ⟨rfl, hb_wt⟩; have hs_wt := hb_wt.size; (try simp at hs_wt)))
    go_ret
    exact ⟨rfl, (by repeat (first | assumption | exact Below.refl _ _ | (refine below_chain ?_ (by assumption) (by first | omega | (simp <;> omega) | simp)) | (refine Below.alloc ?_ (by first | omega | (simp <;> omega) | simp) _) | (apply below_drewN) | (apply below_drew) | (refine Below.setCell ?_ (by first | omega | (simp <;> omega) | simp) _)))⟩
  · obtain ⟨hlo, a0, a1⟩ := amtOk_true.1 hb
    have hn1 : 1 ≤ n := by have := (lenOk_true.1 hlo).1; have := HM.out; omega
    obtain ⟨S, hS⟩ : ∃ S, tot ls = S := ⟨_, rfl⟩
    have S0 : 0 < S := by have := pos_of hlo; omega
    have S1 : S ≤ 200000 := by have := tot_most hlo; omega
    have S2 : (S == 0) = false := by
      have : ¬ S = 0 := by omega
      simpa using this
    have S3 : ¬ S = 0 := by omega
    have c1 := fun w h => Lib.hid (iShareOf_yes n c (some ⟨P, 0, none⟩) ls a w h HM.out hb)
    have c2 := fun w h => Lib.hid (sShareOf_yes n c (some ⟨P, 0, none⟩) ls a w h HM.out hb)
    have c3 := fun w h => Lib.hid (lSum n c (some ⟨P, 0, none⟩) ls w h HM.out (by omega) (fun z hz => by have := (lenOk_true.1 hlo).2.2.1 z hz; omega))
    have c4 := fun (q : Option Addr) (d : Nat) w h hq => Lib.hid (iShareOk n c n d (some ⟨P, 0, none⟩) q ls (shr ls a) a true w h hq HM.out (by rw [shr_len]; exact HM.out) (by omega) (by omega) (shr_ok hb))
    rw [hS] at c3
    have HL := Lib.hid (And.intro hlo (And.intro hb (And.intro hS (show (shr ls a).length = n by rw [shr_len]; exact HM.out))))
    clear hlo hb hS
    go_upto_region 9 with (first | ((go_at_call 15; (with_reducible refine ((c1 _ ?_).out).mono ?_); (focus ((exact HR.out.ints); done)); rintro e wi ⟨g, cg, rfl, hg, og, hb_wi⟩; have hs_wi := hb_wi.size; (try simp at hs_wi)); have OG := Lib.hid og; clear og) | ((go_at_call 16; (with_reducible refine ((c2 _ ?_).out).mono ?_); (focus ((exact HR.out.ints.below hb_wi); done)); rintro e ws ⟨g2, cg2, rfl, hg2, og2, hb_ws⟩; have hs_ws := hb_ws.size; (try simp at hs_ws)); have OG2 := Lib.hid og2; clear og2) | (go_at_call 17; (with_reducible refine (sameInts_at' HL.out.2.2.2 _ _ _ _ _ ?_ ?_ (by omega)).mono ?_); (focus ((exact (OG.out.below (by repeat (first | assumption | exact Below.refl _ _ | (refine below_chain ?_ (by assumption) (by first | omega | (simp <;> omega) | simp)) | (refine Below.alloc ?_ (by first | omega | (simp <;> omega) | simp) _) | (apply below_drewN) | (apply below_drew) | (refine Below.setCell ?_ (by first | omega | (simp <;> omega) | simp) _)))).ints); done)); (focus ((exact OG2.out.ints); done)); rintro e wt ⟨rfl, hb_wt⟩; have hs_wt := hb_wt.size; (try simp at hs_wt)) | (go_at_call 18; (with_reducible refine ((c3 _ ?_).out).mono ?_); (focus (exact (HR.out.below (by repeat (first | assumption | exact Below.refl _ _ | (refine below_chain ?_ (by assumption) (by first | omega | (simp <;> omega) | simp)) | (refine Below.alloc ?_ (by first | omega | (simp <;> omega) | simp) _) | (apply below_drewN) | (apply below_drew) | (refine Below.setCell ?_ (by first | omega | (simp <;> omega) | simp) _)))).ints; done)); rintro e w' ⟨rfl, rfl⟩))
    have hBi : Below wi.heap.size wi wt := (by repeat (first | assumption | exact Below.refl _ _ | (refine below_chain ?_ (by assumption) (by first | omega | (simp <;> omega) | simp)) | (refine Below.alloc ?_ (by first | omega | (simp <;> omega) | simp) _) | (apply below_drewN) | (apply below_drew) | (refine Below.setCell ?_ (by first | omega | (simp <;> omega) | simp) _)))
    have hBd : Below wd.heap.size wd wt := (by repeat (first | assumption | exact Below.refl _ _ | (refine below_chain ?_ (by assumption) (by first | omega | (simp <;> omega) | simp)) | (refine Below.alloc ?_ (by first | omega | (simp <;> omega) | simp) _) | (apply below_drewN) | (apply below_drew) | (refine Below.setCell ?_ (by first | omega | (simp <;> omega) | simp) _)))
    have HX := Lib.hid (And.intro (HR.out.below hBd) (And.intro (OG.out.below hBi) (hb_wd.trans (hBd.mono hs_wd))))
    have hsW := HX.out.2.2.size
    have hPt := HX.out.1.lt
    have hgt := HX.out.2.1.lt
    clear hb_wd hb_wi hb_ws hb_wt hBi hBd HR OG OG2 c1 c2 c3
    have hq := tdiv_low S0 a0 a1
    obtain ⟨q, hqq⟩ : ∃ q, a.tdiv S = q := ⟨_, rfl⟩
    obtain ⟨u, huu⟩ : ∃ u, a.tmod S = u := ⟨_, rfl⟩
    rw [hqq] at hq
    obtain ⟨q0, q1⟩ := hq
    have HQ := Lib.hid (show ∀ i, u = 0 → sh ls a i = q * nth ls i from fun i h => by
      have := shr_div HL.out.1 (a := a) (by rw [HL.out.2.2.1, huu]; exact h) i
      rw [HL.out.2.2.1, hqq] at this; exact this)
    go_wp2_with fail
    go_loopw [10] (fun i wr => ∃ j : Nat, j ≤ n ∧ i = .int .i64 j ∧ Below wt.heap.size wt wr) (fun i _ => n - (intOf i).toNat)
    case atStart => exact ⟨0, Nat.zero_le _, rfl, Below.refl _ _⟩
    case round =>
      obtain ⟨j, hj, rfl, hbr⟩ := hrel
      have hbs := hbr.size
      have hPr : P < wr.heap.size := by omega
      have hgr : g < wr.heap.size := by omega
      by_cases hlt : j < n
      · have hlt' : (j : Int) < (n : Int) := by omega
        obtain ⟨z, hz⟩ : ∃ z, nth ls j = z := ⟨_, rfl⟩
        obtain ⟨o, ho⟩ : ∃ o, sh ls a j = o := ⟨_, rfl⟩
        have hz' : ls[j]? = some z := by rw [← hz]; exact at_nth (by have := HM.out; omega)
        have ho' : (shr ls a)[j]? = some o := by rw [← ho, ← nth_shr (by have := HM.out; omega)]; exact at_nth (by have := HL.out.2.2.2; omega)
        have e0 := (HX.out.1.below hbr).cells hz'
        have e1 := (HX.out.2.1.below hbr).cells ho'
        have hzl := nth_low HL.out.1 (i := j) (by have := HM.out; omega)
        have hol := sh_low HL.out.2.1 (i := j) (by have := HM.out; omega)
        have hzo : z = 0 → o = 0 := fun h => by rw [← ho]; exact shr_zero HL.out.1 (by rw [hz]; exact h)
        have huo : u = 0 → o = q * z := fun h => by rw [← ho, ← hz]; exact HQ.out j h
        rw [hz] at hzl
        obtain ⟨z0, z1⟩ := hzl
        have HZ := Lib.hid (And.intro hz (And.intro ho hbr))
        have HZU := Lib.hid (And.intro hzo huo)
        clear hz ho hz' ho' hbr hzo huo
        have hcase : (z = 0 ∧ o = 0) ∨ (¬ z = 0 ∧ u = 0 ∧ o = q * z) ∨ (¬ z = 0 ∧ ¬ u = 0) := by
          by_cases h1 : z = 0
          · exact .inl ⟨h1, HZU.out.1 h1⟩
          · by_cases h2 : u = 0
            · exact .inr (.inl ⟨h1, h2, HZU.out.2 h2⟩)
            · exact .inr (.inr ⟨h1, h2⟩)
        have hqz : -100000000000 ≤ q * z ∧ q * z ≤ 100000000000 := by
          have u1 := Int.le_trans (Int.mul_le_mul_of_nonneg_right q1 z0) (Int.mul_le_mul_of_nonneg_left z1 (by omega : (0 : Int) ≤ 10000000))
          have u2 := Int.le_trans (Int.mul_le_mul_of_nonneg_right (show -q ≤ 10000000 by omega) z0) (Int.mul_le_mul_of_nonneg_left z1 (by omega : (0 : Int) ≤ 10000000))
          rw [Int.neg_mul] at u2
          omega
        obtain ⟨qz0, qz1⟩ := hqz
        have hgo : ∀ k, k < n → 0 ≤ a → nth ls k < z → ¬ o < sh ls a k := fun k hk h0 h1 => by
          have := shr_mono HL.out.1 h0 (k := k) (i := j) (by have := HM.out; omega) (by rw [HZ.out.1]; exact h1)
          rw [HZ.out.2.1] at this; omega
        have HO := Lib.hid hgo
        clear hgo
        have hjz : Hid (ls[j]? = some z ∧ (shr ls a)[j]? = some o) := Lib.hid ⟨by rw [← HZ.out.1]; exact at_nth (by have := HM.out; omega), by rw [← HZ.out.2.1, ← nth_shr (by have := HM.out; omega)]; exact at_nth (by have := HL.out.2.2.2; omega)⟩
        have hol' : -10000001 ≤ o ∧ o ≤ 10000001 := by rw [← HZ.out.2.1]; exact hol
        obtain ⟨o0, o1⟩ := hol'
        clear hol
        obtain ⟨hz0, ho0⟩ | ⟨hz0, hu0, ho0⟩ | ⟨hz0, hu0⟩ := hcase
        · by_cases hu0 : u = 0
          · go_wp2_with fail
            (refine wp_region_grows (by kernel_rfl) (by kernel_rfl) ?_; intro W_wg hWc_wg hWs_wg hWe_wg; (repeat (go_big_quiet_step (fail))); with_reducible refine wpQuiet_nil ?_; clear hWe_wg hWs_wg hWc_wg W_wg; intro wg hb_wg; obtain ⟨hc_wg, hf_wg⟩ := bcell hb_wg; (try simp only [World.size_drew, World.cell?_drew, World.frozen?_drew, World.heap_drewN, World.cell?_drewN, World.frozen?_drewN] at hc_wg hf_wg); have hs_wg := hb_wg.size; (try simp at hs_wg))
            clear ho0 hu0
            clear hz0
            have HG := Lib.hid (HZ.out.2.2.trans (hb_wg.mono hbs))
            clear e0 e1 hc_wg hf_wg hb_wg hs_wg
            go_wp2_with fail
            go_loopw [11] (fun i wz => ∃ k : Nat, k ≤ n ∧ i = .int .i64 k ∧ Below wt.heap.size wt wz) (fun i _ => n - (intOf i).toNat)
            case atStart => exact ⟨0, Nat.zero_le _, rfl, HG.out⟩
            case round =>
              clear HG
              rename World => wz
              obtain ⟨k, hk, rfl, hbz⟩ := hrel
              have hsz := hbz.size
              have hPz : P < wz.heap.size := by omega
              have hgz : g < wz.heap.size := by omega
              by_cases hkn : k < n
              · have hkn' : (k : Int) < (n : Int) := by omega
                obtain ⟨y, hy⟩ : ∃ y, nth ls k = y := ⟨_, rfl⟩
                obtain ⟨v, hv⟩ : ∃ v, sh ls a k = v := ⟨_, rfl⟩
                have hy' : ls[k]? = some y := by rw [← hy]; exact at_nth (by have := HM.out; omega)
                have hv' : (shr ls a)[k]? = some v := by rw [← hv, ← nth_shr (by have := HM.out; omega)]; exact at_nth (by have := HL.out.2.2.2; omega)
                have e2 := (HX.out.1.below hbz).cells hy'
                have e3 := (HX.out.2.1.below hbz).cells hv'
                have e0 := (HX.out.1.below hbz).cells hjz.out.1
                have e1 := (HX.out.2.1.below hbz).cells hjz.out.2
                have hov := HO.out k hkn
                rw [hy, hv] at hov
                have HY := Lib.hid hbz
                have HV := Lib.hid hov
                clear hy hv hy' hv' hov hbz
                by_cases ha : 0 ≤ a
                · by_cases hyz : y < z
                  · have hvo := HV.out ha hyz
                    go_wp2_with fail
                    (refine wp_region_grows (by kernel_rfl) (by kernel_rfl) ?_; intro W_wk hWc_wk hWs_wk hWe_wk; (repeat (go_big_quiet_step (fail))); with_reducible refine wpQuiet_nil ?_; clear hWe_wk hWs_wk hWc_wk W_wk; intro wk hb_wk; obtain ⟨hc_wk, hf_wk⟩ := bcell hb_wk; (try simp only [World.size_drew, World.cell?_drew, World.frozen?_drew, World.heap_drewN, World.cell?_drewN, World.frozen?_drewN] at hc_wk hf_wk); have hs_wk := hb_wk.size; (try simp at hs_wk))
                    go_wp2_with fail
                    go_roundw
                    case rel => exact ⟨k + 1, by omega, by go_num, HY.out.trans (hb_wk.mono hsz)⟩
                    case measure => simp [intOf]; omega
                  · have hyb : decide (y < z) = false := decide_eq_false hyz
                    go_wp2_with fail
                    (refine wp_region_grows (by kernel_rfl) (by kernel_rfl) ?_; intro W_wk hWc_wk hWs_wk hWe_wk; (repeat (go_big_quiet_step (fail))); with_reducible refine wpQuiet_nil ?_; clear hWe_wk hWs_wk hWc_wk W_wk; intro wk hb_wk; obtain ⟨hc_wk, hf_wk⟩ := bcell hb_wk; (try simp only [World.size_drew, World.cell?_drew, World.frozen?_drew, World.heap_drewN, World.cell?_drewN, World.frozen?_drewN] at hc_wk hf_wk); have hs_wk := hb_wk.size; (try simp at hs_wk))
                    go_wp2_with fail
                    go_roundw
                    case rel => exact ⟨k + 1, by omega, by go_num, HY.out.trans (hb_wk.mono hsz)⟩
                    case measure => simp [intOf]; omega
                · have hab : decide (0 ≤ a) = false := decide_eq_false ha
                  go_wp2_with fail
                  (refine wp_region_grows (by kernel_rfl) (by kernel_rfl) ?_; intro W_wk hWc_wk hWs_wk hWe_wk; (repeat (go_big_quiet_step (fail))); with_reducible refine wpQuiet_nil ?_; clear hWe_wk hWs_wk hWc_wk W_wk; intro wk hb_wk; obtain ⟨hc_wk, hf_wk⟩ := bcell hb_wk; (try simp only [World.size_drew, World.cell?_drew, World.frozen?_drew, World.heap_drewN, World.cell?_drewN, World.frozen?_drewN] at hc_wk hf_wk); have hs_wk := hb_wk.size; (try simp at hs_wk))
                  go_wp2_with fail
                  go_roundw
                  case rel => exact ⟨k + 1, by omega, by go_num, HY.out.trans (hb_wk.mono hsz)⟩
                  case measure => simp [intOf]; omega
              · have e : k = n := by omega
                subst e
                go_wp2_with fail
                go_roundw
                case rel => exact ⟨j + 1, by omega, by go_num, hbz⟩
                case measure => simp [intOf]; omega
          · have hub : (u == 0) = false := by simpa using hu0
            go_wp2_with fail
            (refine wp_region_grows (by kernel_rfl) (by kernel_rfl) ?_; intro W_wg hWc_wg hWs_wg hWe_wg; (repeat (go_big_quiet_step (fail))); with_reducible refine wpQuiet_nil ?_; clear hWe_wg hWs_wg hWc_wg W_wg; intro wg hb_wg; obtain ⟨hc_wg, hf_wg⟩ := bcell hb_wg; (try simp only [World.size_drew, World.cell?_drew, World.frozen?_drew, World.heap_drewN, World.cell?_drewN, World.frozen?_drewN] at hc_wg hf_wg); have hs_wg := hb_wg.size; (try simp at hs_wg))
            clear ho0 hu0
            clear hz0
            have HG := Lib.hid (HZ.out.2.2.trans (hb_wg.mono hbs))
            clear e0 e1 hc_wg hf_wg hb_wg hs_wg
            go_wp2_with fail
            go_loopw [11] (fun i wz => ∃ k : Nat, k ≤ n ∧ i = .int .i64 k ∧ Below wt.heap.size wt wz) (fun i _ => n - (intOf i).toNat)
            case atStart => exact ⟨0, Nat.zero_le _, rfl, HG.out⟩
            case round =>
              clear HG
              rename World => wz
              obtain ⟨k, hk, rfl, hbz⟩ := hrel
              have hsz := hbz.size
              have hPz : P < wz.heap.size := by omega
              have hgz : g < wz.heap.size := by omega
              by_cases hkn : k < n
              · have hkn' : (k : Int) < (n : Int) := by omega
                obtain ⟨y, hy⟩ : ∃ y, nth ls k = y := ⟨_, rfl⟩
                obtain ⟨v, hv⟩ : ∃ v, sh ls a k = v := ⟨_, rfl⟩
                have hy' : ls[k]? = some y := by rw [← hy]; exact at_nth (by have := HM.out; omega)
                have hv' : (shr ls a)[k]? = some v := by rw [← hv, ← nth_shr (by have := HM.out; omega)]; exact at_nth (by have := HL.out.2.2.2; omega)
                have e2 := (HX.out.1.below hbz).cells hy'
                have e3 := (HX.out.2.1.below hbz).cells hv'
                have e0 := (HX.out.1.below hbz).cells hjz.out.1
                have e1 := (HX.out.2.1.below hbz).cells hjz.out.2
                have hov := HO.out k hkn
                rw [hy, hv] at hov
                have HY := Lib.hid hbz
                have HV := Lib.hid hov
                clear hy hv hy' hv' hov hbz
                by_cases ha : 0 ≤ a
                · by_cases hyz : y < z
                  · have hvo := HV.out ha hyz
                    go_wp2_with fail
                    (refine wp_region_grows (by kernel_rfl) (by kernel_rfl) ?_; intro W_wk hWc_wk hWs_wk hWe_wk; (repeat (go_big_quiet_step (fail))); with_reducible refine wpQuiet_nil ?_; clear hWe_wk hWs_wk hWc_wk W_wk; intro wk hb_wk; obtain ⟨hc_wk, hf_wk⟩ := bcell hb_wk; (try simp only [World.size_drew, World.cell?_drew, World.frozen?_drew, World.heap_drewN, World.cell?_drewN, World.frozen?_drewN] at hc_wk hf_wk); have hs_wk := hb_wk.size; (try simp at hs_wk))
                    go_wp2_with fail
                    go_roundw
                    case rel => exact ⟨k + 1, by omega, by go_num, HY.out.trans (hb_wk.mono hsz)⟩
                    case measure => simp [intOf]; omega
                  · have hyb : decide (y < z) = false := decide_eq_false hyz
                    go_wp2_with fail
                    (refine wp_region_grows (by kernel_rfl) (by kernel_rfl) ?_; intro W_wk hWc_wk hWs_wk hWe_wk; (repeat (go_big_quiet_step (fail))); with_reducible refine wpQuiet_nil ?_; clear hWe_wk hWs_wk hWc_wk W_wk; intro wk hb_wk; obtain ⟨hc_wk, hf_wk⟩ := bcell hb_wk; (try simp only [World.size_drew, World.cell?_drew, World.frozen?_drew, World.heap_drewN, World.cell?_drewN, World.frozen?_drewN] at hc_wk hf_wk); have hs_wk := hb_wk.size; (try simp at hs_wk))
                    go_wp2_with fail
                    go_roundw
                    case rel => exact ⟨k + 1, by omega, by go_num, HY.out.trans (hb_wk.mono hsz)⟩
                    case measure => simp [intOf]; omega
                · have hab : decide (0 ≤ a) = false := decide_eq_false ha
                  go_wp2_with fail
                  (refine wp_region_grows (by kernel_rfl) (by kernel_rfl) ?_; intro W_wk hWc_wk hWs_wk hWe_wk; (repeat (go_big_quiet_step (fail))); with_reducible refine wpQuiet_nil ?_; clear hWe_wk hWs_wk hWc_wk W_wk; intro wk hb_wk; obtain ⟨hc_wk, hf_wk⟩ := bcell hb_wk; (try simp only [World.size_drew, World.cell?_drew, World.frozen?_drew, World.heap_drewN, World.cell?_drewN, World.frozen?_drewN] at hc_wk hf_wk); have hs_wk := hb_wk.size; (try simp at hs_wk))
                  go_wp2_with fail
                  go_roundw
                  case rel => exact ⟨k + 1, by omega, by go_num, HY.out.trans (hb_wk.mono hsz)⟩
                  case measure => simp [intOf]; omega
              · have e : k = n := by omega
                subst e
                go_wp2_with fail
                go_roundw
                case rel => exact ⟨j + 1, by omega, by go_num, hbz⟩
                case measure => simp [intOf]; omega
        · have hzb : (z == 0) = false := by simpa using hz0
          go_wp2_with fail
          (refine wp_region_grows (by kernel_rfl) (by kernel_rfl) ?_; intro W_wg hWc_wg hWs_wg hWe_wg; (repeat (go_big_quiet_step (fail))); with_reducible refine wpQuiet_nil ?_; clear hWe_wg hWs_wg hWc_wg W_wg; intro wg hb_wg; obtain ⟨hc_wg, hf_wg⟩ := bcell hb_wg; (try simp only [World.size_drew, World.cell?_drew, World.frozen?_drew, World.heap_drewN, World.cell?_drewN, World.frozen?_drewN] at hc_wg hf_wg); have hs_wg := hb_wg.size; (try simp at hs_wg))
          clear ho0 hu0 hzb
          clear hz0
          have HG := Lib.hid (HZ.out.2.2.trans (hb_wg.mono hbs))
          clear e0 e1 hc_wg hf_wg hb_wg hs_wg
          go_wp2_with fail
          go_loopw [11] (fun i wz => ∃ k : Nat, k ≤ n ∧ i = .int .i64 k ∧ Below wt.heap.size wt wz) (fun i _ => n - (intOf i).toNat)
          case atStart => exact ⟨0, Nat.zero_le _, rfl, HG.out⟩
          case round =>
            clear HG
            rename World => wz
            obtain ⟨k, hk, rfl, hbz⟩ := hrel
            have hsz := hbz.size
            have hPz : P < wz.heap.size := by omega
            have hgz : g < wz.heap.size := by omega
            by_cases hkn : k < n
            · have hkn' : (k : Int) < (n : Int) := by omega
              obtain ⟨y, hy⟩ : ∃ y, nth ls k = y := ⟨_, rfl⟩
              obtain ⟨v, hv⟩ : ∃ v, sh ls a k = v := ⟨_, rfl⟩
              have hy' : ls[k]? = some y := by rw [← hy]; exact at_nth (by have := HM.out; omega)
              have hv' : (shr ls a)[k]? = some v := by rw [← hv, ← nth_shr (by have := HM.out; omega)]; exact at_nth (by have := HL.out.2.2.2; omega)
              have e2 := (HX.out.1.below hbz).cells hy'
              have e3 := (HX.out.2.1.below hbz).cells hv'
              have e0 := (HX.out.1.below hbz).cells hjz.out.1
              have e1 := (HX.out.2.1.below hbz).cells hjz.out.2
              have hov := HO.out k hkn
              rw [hy, hv] at hov
              have HY := Lib.hid hbz
              have HV := Lib.hid hov
              clear hy hv hy' hv' hov hbz
              by_cases ha : 0 ≤ a
              · by_cases hyz : y < z
                · have hvo := HV.out ha hyz
                  go_wp2_with fail
                  (refine wp_region_grows (by kernel_rfl) (by kernel_rfl) ?_; intro W_wk hWc_wk hWs_wk hWe_wk; (repeat (go_big_quiet_step (fail))); with_reducible refine wpQuiet_nil ?_; clear hWe_wk hWs_wk hWc_wk W_wk; intro wk hb_wk; obtain ⟨hc_wk, hf_wk⟩ := bcell hb_wk; (try simp only [World.size_drew, World.cell?_drew, World.frozen?_drew, World.heap_drewN, World.cell?_drewN, World.frozen?_drewN] at hc_wk hf_wk); have hs_wk := hb_wk.size; (try simp at hs_wk))
                  go_wp2_with fail
                  go_roundw
                  case rel => exact ⟨k + 1, by omega, by go_num, HY.out.trans (hb_wk.mono hsz)⟩
                  case measure => simp [intOf]; omega
                · have hyb : decide (y < z) = false := decide_eq_false hyz
                  go_wp2_with fail
                  (refine wp_region_grows (by kernel_rfl) (by kernel_rfl) ?_; intro W_wk hWc_wk hWs_wk hWe_wk; (repeat (go_big_quiet_step (fail))); with_reducible refine wpQuiet_nil ?_; clear hWe_wk hWs_wk hWc_wk W_wk; intro wk hb_wk; obtain ⟨hc_wk, hf_wk⟩ := bcell hb_wk; (try simp only [World.size_drew, World.cell?_drew, World.frozen?_drew, World.heap_drewN, World.cell?_drewN, World.frozen?_drewN] at hc_wk hf_wk); have hs_wk := hb_wk.size; (try simp at hs_wk))
                  go_wp2_with fail
                  go_roundw
                  case rel => exact ⟨k + 1, by omega, by go_num, HY.out.trans (hb_wk.mono hsz)⟩
                  case measure => simp [intOf]; omega
              · have hab : decide (0 ≤ a) = false := decide_eq_false ha
                go_wp2_with fail
                (refine wp_region_grows (by kernel_rfl) (by kernel_rfl) ?_; intro W_wk hWc_wk hWs_wk hWe_wk; (repeat (go_big_quiet_step (fail))); with_reducible refine wpQuiet_nil ?_; clear hWe_wk hWs_wk hWc_wk W_wk; intro wk hb_wk; obtain ⟨hc_wk, hf_wk⟩ := bcell hb_wk; (try simp only [World.size_drew, World.cell?_drew, World.frozen?_drew, World.heap_drewN, World.cell?_drewN, World.frozen?_drewN] at hc_wk hf_wk); have hs_wk := hb_wk.size; (try simp at hs_wk))
                go_wp2_with fail
                go_roundw
                case rel => exact ⟨k + 1, by omega, by go_num, HY.out.trans (hb_wk.mono hsz)⟩
                case measure => simp [intOf]; omega
            · have e : k = n := by omega
              subst e
              go_wp2_with fail
              go_roundw
              case rel => exact ⟨j + 1, by omega, by go_num, hbz⟩
              case measure => simp [intOf]; omega
        · have hzb : (z == 0) = false := by simpa using hz0
          have hub : (u == 0) = false := by simpa using hu0
          go_wp2_with fail
          (refine wp_region_grows (by kernel_rfl) (by kernel_rfl) ?_; intro W_wg hWc_wg hWs_wg hWe_wg; (repeat (go_big_quiet_step (fail))); with_reducible refine wpQuiet_nil ?_; clear hWe_wg hWs_wg hWc_wg W_wg; intro wg hb_wg; obtain ⟨hc_wg, hf_wg⟩ := bcell hb_wg; (try simp only [World.size_drew, World.cell?_drew, World.frozen?_drew, World.heap_drewN, World.cell?_drewN, World.frozen?_drewN] at hc_wg hf_wg); have hs_wg := hb_wg.size; (try simp at hs_wg))
          clear hu0 hzb
          clear hz0
          have HG := Lib.hid (HZ.out.2.2.trans (hb_wg.mono hbs))
          clear e0 e1 hc_wg hf_wg hb_wg hs_wg
          go_wp2_with fail
          go_loopw [11] (fun i wz => ∃ k : Nat, k ≤ n ∧ i = .int .i64 k ∧ Below wt.heap.size wt wz) (fun i _ => n - (intOf i).toNat)
          case atStart => exact ⟨0, Nat.zero_le _, rfl, HG.out⟩
          case round =>
            clear HG
            rename World => wz
            obtain ⟨k, hk, rfl, hbz⟩ := hrel
            have hsz := hbz.size
            have hPz : P < wz.heap.size := by omega
            have hgz : g < wz.heap.size := by omega
            by_cases hkn : k < n
            · have hkn' : (k : Int) < (n : Int) := by omega
              obtain ⟨y, hy⟩ : ∃ y, nth ls k = y := ⟨_, rfl⟩
              obtain ⟨v, hv⟩ : ∃ v, sh ls a k = v := ⟨_, rfl⟩
              have hy' : ls[k]? = some y := by rw [← hy]; exact at_nth (by have := HM.out; omega)
              have hv' : (shr ls a)[k]? = some v := by rw [← hv, ← nth_shr (by have := HM.out; omega)]; exact at_nth (by have := HL.out.2.2.2; omega)
              have e2 := (HX.out.1.below hbz).cells hy'
              have e3 := (HX.out.2.1.below hbz).cells hv'
              have e0 := (HX.out.1.below hbz).cells hjz.out.1
              have e1 := (HX.out.2.1.below hbz).cells hjz.out.2
              have hov := HO.out k hkn
              rw [hy, hv] at hov
              have HY := Lib.hid hbz
              have HV := Lib.hid hov
              clear hy hv hy' hv' hov hbz
              by_cases ha : 0 ≤ a
              · by_cases hyz : y < z
                · have hvo := HV.out ha hyz
                  go_wp2_with fail
                  (refine wp_region_grows (by kernel_rfl) (by kernel_rfl) ?_; intro W_wk hWc_wk hWs_wk hWe_wk; (repeat (go_big_quiet_step (fail))); with_reducible refine wpQuiet_nil ?_; clear hWe_wk hWs_wk hWc_wk W_wk; intro wk hb_wk; obtain ⟨hc_wk, hf_wk⟩ := bcell hb_wk; (try simp only [World.size_drew, World.cell?_drew, World.frozen?_drew, World.heap_drewN, World.cell?_drewN, World.frozen?_drewN] at hc_wk hf_wk); have hs_wk := hb_wk.size; (try simp at hs_wk))
                  go_wp2_with fail
                  go_roundw
                  case rel => exact ⟨k + 1, by omega, by go_num, HY.out.trans (hb_wk.mono hsz)⟩
                  case measure => simp [intOf]; omega
                · have hyb : decide (y < z) = false := decide_eq_false hyz
                  go_wp2_with fail
                  (refine wp_region_grows (by kernel_rfl) (by kernel_rfl) ?_; intro W_wk hWc_wk hWs_wk hWe_wk; (repeat (go_big_quiet_step (fail))); with_reducible refine wpQuiet_nil ?_; clear hWe_wk hWs_wk hWc_wk W_wk; intro wk hb_wk; obtain ⟨hc_wk, hf_wk⟩ := bcell hb_wk; (try simp only [World.size_drew, World.cell?_drew, World.frozen?_drew, World.heap_drewN, World.cell?_drewN, World.frozen?_drewN] at hc_wk hf_wk); have hs_wk := hb_wk.size; (try simp at hs_wk))
                  go_wp2_with fail
                  go_roundw
                  case rel => exact ⟨k + 1, by omega, by go_num, HY.out.trans (hb_wk.mono hsz)⟩
                  case measure => simp [intOf]; omega
              · have hab : decide (0 ≤ a) = false := decide_eq_false ha
                go_wp2_with fail
                (refine wp_region_grows (by kernel_rfl) (by kernel_rfl) ?_; intro W_wk hWc_wk hWs_wk hWe_wk; (repeat (go_big_quiet_step (fail))); with_reducible refine wpQuiet_nil ?_; clear hWe_wk hWs_wk hWc_wk W_wk; intro wk hb_wk; obtain ⟨hc_wk, hf_wk⟩ := bcell hb_wk; (try simp only [World.size_drew, World.cell?_drew, World.frozen?_drew, World.heap_drewN, World.cell?_drewN, World.frozen?_drewN] at hc_wk hf_wk); have hs_wk := hb_wk.size; (try simp at hs_wk))
                go_wp2_with fail
                go_roundw
                case rel => exact ⟨k + 1, by omega, by go_num, HY.out.trans (hb_wk.mono hsz)⟩
                case measure => simp [intOf]; omega
            · have e : k = n := by omega
              subst e
              go_wp2_with fail
              go_roundw
              case rel => exact ⟨j + 1, by omega, by go_num, hbz⟩
              case measure => simp [intOf]; omega
      · have e : j = n := by omega
        subst e
        have HZ := Lib.hid hbr
        clear hbr hqq huu hlt
        go_wp2_with ((go_at_call 19; (with_reducible refine ((c4 _ _ _ ?_ ?_).out).mono ?_); (focus ((exact (HX.out.1.below HZ.out).ints); done)); (focus ((exact (HX.out.2.1.below HZ.out).ints); done)); rintro e wy ⟨rfl, hb_wy⟩; have hs_wy := hb_wy.size; (try simp at hs_wy)))
        go_ret
        exact ⟨rfl, HX.out.2.2.trans ((HZ.out.trans (hb_wy.mono hbs)).mono hsW)⟩

set_option maxRecDepth 100000 in
theorem walk_long (len cap : Nat) (p : Option Addr) (w : World) (hl : 1048576 < len) :
    Calls Try.prog 3 #[.slice p len cap] w fun e w' => e = .returned (.bool true) ∧ Below w.heap.size w w' := by
  have hl' : (1048576 : Int) < (len : Int) := by omega
  go_enter Try.func3, Try.ntmps3
  go_wp2
  go_ret
  exact ⟨rfl, Below.refl _ _⟩

set_option maxRecDepth 100000 in
theorem lifted (os : Os) (started : os.Started) (H : Type) (enc : TypeId × Value → H) :
    ReturnsInHanded {} Try.checked os 3 .any (Rows.fnShareSpec.pre6 enc Try.prog Try.f3 Rows.fnShareRow.domain false) (Rows.fnShareSpec.post enc Try.prog Try.f3 false true false false) := by
  refine returnsInHanded_of_change (C := Try.checked) own started (by kernel_rfl) Try.func3
    (ChangeSpec.witness6 (enc := enc) (C := Try.checked) false ⟨#[], #[.slice none 0 0], []⟩ 8 (by kernel_rfl) (by kernel_rfl) (by kernel_rfl) (by kernel_rfl)) ?_
  intro W base args ds gs before hval0 hW hcnd _
  have hval : ∀ (j : Nat) t v, Try.f3.params[j]? = some t → args[j]? = some v → Value.okWide Try.prog W .any base t v := hval0
  have hW' := hW
  obtain ⟨p, q, hA0, hV, rfl, hfz, hnd⟩ := hW
  have hA : DataW.TrodAll enc Try.prog W 0 (fun _ => true) true Try.f3.params.toList args.toList ds p := hA0
  rw [Try.params3] at hA hval
  obtain ⟨v0, vs0, d0, ds0, p0, q0, hargs, rfl, rfl, h0, r0⟩ := trodAll_cons hA
  obtain ⟨rfl, rfl, rfl⟩ := trodAll_nil r0
  obtain rfl : args = #[v0] := by cases args; simp_all
  obtain ⟨rfl, rfl⟩ := trodVars_none hV
  obtain ⟨a0, len0, cap0, rfl⟩ := okWide_slice Try.underlying22 (hval 0 22 v0 rfl rfl)
  have k0 := h0
  have lt0 : ∀ x ∈ p0, x.block < W.heap.size := by obtain ⟨m, hm⟩ := k0; exact DataW.trod_lt m _ _ _ hm
  obtain ⟨z0, w0⟩ : ∃ zs, IsRow .u8 W a0 len0 cap0 zs := by
    obtain ⟨fuel, hf⟩ := h0
    rcases open_ints Try.underlying22 Try.underlying5 (by kernel_rfl) hf with ⟨hcs, _⟩ | ⟨x, l, c, zs, hcs, _, hl, hm, hz, _, hcell, hwz⟩
    · simp [Value.cells] at hcs
      obtain ⟨rfl, rfl, rfl⟩ := hcs
      exact ⟨[], .inl ⟨rfl, rfl, rfl, rfl⟩⟩
    · simp [Value.cells] at hcs
      obtain ⟨rfl, rfl, rfl⟩ := hcs
      exact ⟨zs, .inr ⟨_, rfl, hl, hm, by simpa using hz, hcell, hwz⟩⟩
  clear hA0 hval0
  have hw : Calls Try.prog 3 #[.slice a0 len0 cap0] W fun e w' => e = .returned (.bool true) ∧ Below W.heap.size W w' := by
    by_cases hl : len0 ≤ 1048576
    · exact walk len0 cap0 a0 W hl (Lib.hid (code_of_row w0 hl))
    · exact walk_long len0 cap0 a0 W (by omega)
  refine hw.mono fun e W' ⟨he, bel⟩ => ?_
  subst he
  exact ⟨_, rfl, _, _, _, [], _, [], hW', trodAll_mk1 (shut_bool Try.underlying4 _), (trodAll_cons_mk (Below.trod laidOut (by kernel_rfl) (of_decide_eq_true (by kernel_rfl)) k0 bel lt0) trodAll_mk0), rfl, bel.frame _, fun h => by cases h⟩

theorem over : Rows.fnShareRow.holds Try.pinned (OpenSpec.ofChange Rows.fnShareSpec) :=
  OpenClaim.holds_of_wide 3 Try.f3 rfl rfl rfl rfl rfl rfl rfl ⟨rfl, rfl, rfl, rfl, rfl⟩ rfl rfl rfl rfl rfl (by kernel_rfl) Try.func3 (by kernel_rfl)
    (of_decide_eq_true (by kernel_rfl)) (by unfold Func.isWrapper; first | (rw [if_pos (by decide +kernel)]; kernel_rfl) | (rw [if_neg (by decide +kernel)]; exact ⟨rfl, rfl⟩))
    (fun os started H enc _ => lifted os started H enc)

theorem proved : Rows.FnShareSaid := over
end Go.Proofs.Ytjfbkafekkbcdaa.fnShare

