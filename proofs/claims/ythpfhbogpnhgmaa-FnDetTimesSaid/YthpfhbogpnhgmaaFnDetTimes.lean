/-
  For every two codes the law FnDetTimes returns true: impl.MatTimes answers as the reference model does, determinants multiply, the product of the turned matrices is the product turned, and a product laid on a list says what its factors say one behind the other. No condition: every two lists of bytes are taken.
-/
import Derived.Test.YthpfhbogpnhgmaaMj
import Derived.Test.YthpfhbogpnhgmaaDMc
import Derived.Test.YthpfhbogpnhgmaaNk4
namespace Go.Proofs.Ythpfhbogpnhgmaa.fnDetTimes
open Go.ChangeShapes Go.WideShapes Go.ChangeAt Go.RowKit
set_option linter.unusedVariables false

set_option maxHeartbeats 8000000 in
set_option maxRecDepth 100000 in
theorem walk (len cap : Nat) (p : Option Addr) (len2 cap2 : Nat) (p2 : Option Addr) (w : World) (hl : len ≤ 1048576) (hl2 : len2 ≤ 1048576) (h : Hid (Code' w (.slice p len cap))) (h2 : Hid (Code' w (.slice p2 len2 cap2))) :
    Calls Try.prog 5 #[.slice p len cap, .slice p2 len2 cap2] w fun e w' => e = .returned (.bool true) ∧ Below w.heap.size w w' := by
  have hl' : ¬ (1048576 : Int) < (len : Int) := by omega
  have hl2' : ¬ (1048576 : Int) < (len2 : Int) := by omega
  have hl2'' : len2 ≤ 1048576 := hl2
  clear h2
  go_enter Try.func5, Try.ntmps5
  go_upto_region 4 with (go_at_call 19; (with_reducible refine (drawMatTimes_is _ _ h).mono ?_); rintro e wd ⟨A, B, ba, bt, g, k, c, gx, kx, d, rfl, hd, hx⟩; have HG := Lib.hid (And.intro hd.2.1 hx.2.1); have hb_wd := hd.2.2; have hk4 := hd.1.2.1; have hx5 := hx.1.2.1; have HD := Lib.hid (And.intro hd.1.1 hx.1.1); have hs_wd := hb_wd.size; clear hd hx)
  clear h
  by_cases hok : tmsOk A B
  · have hkx : kx = k := by rw [← HD.out.1, ← HD.out.2]; exact hok.2.2.1.symm
    subst hkx
    have hokA := hok.1
    have hokB := hok.2.1
    have hk1 : 1 ≤ kx := by have := (matOk_true.1 hokA).1; have := HD.out.1; omega
    obtain ⟨M, hM⟩ : ∃ M, mkL kx (mul kx (ent A) (ent B)) = M := ⟨_, rfl⟩
    have hMok : matOk M = true := by have := hok.2.2.2; rw [HD.out.1, hM] at this; exact this
    have hMl : M.length = kx := by rw [← hM]; exact mkL_len
    have hMr : ∀ r ∈ M, r.length ≤ 1048576 := fun r hr => by have := ((matOk_true.1 hMok).2.2 r hr).1; omega
    have hdt : det kx (ent M) = det kx (ent A) * det kx (ent B) := by rw [← hM, det_mkL, det_mul]
    have turnOk : ∀ {X : List (List Int)}, matOk X = true → X.length = kx → matOk (mkL kx (trn (ent X))) = true := fun {X} h hX => (mkL_ok hk1 (by omega)).2 (fun i j hi hj => by have := matOk.small h; rw [hX] at this; exact this j i hj hi)
    obtain ⟨TA, hTA⟩ : ∃ TA, mkL kx (trn (ent A)) = TA := ⟨_, rfl⟩
    obtain ⟨TB, hTB⟩ : ∃ TB, mkL kx (trn (ent B)) = TB := ⟨_, rfl⟩
    obtain ⟨TM, hTM⟩ : ∃ TM, mkL kx (trn (ent M)) = TM := ⟨_, rfl⟩
    have hTAok : matOk TA = true := by rw [← hTA]; exact turnOk hokA HD.out.1
    have hTBok : matOk TB = true := by rw [← hTB]; exact turnOk hokB HD.out.2
    have hTMok : matOk TM = true := by rw [← hTM]; exact turnOk hMok hMl
    have hTAl : TA.length = kx := by rw [← hTA]; exact mkL_len
    have hTBl : TB.length = kx := by rw [← hTB]; exact mkL_len
    have hTMl : TM.length = kx := by rw [← hTM]; exact mkL_len
    have hTMr : ∀ r ∈ TM, r.length ≤ 1048576 := fun r hr => by have := ((matOk_true.1 hTMok).2.2 r hr).1; omega
    have htt : mkL kx (mul kx (ent TB) (ent TA)) = TM := by rw [← hTB, ← hTA, turn_times, hM, hTM]
    have htok : tmsOk TB TA := ⟨hTBok, hTAok, by rw [hTBl, hTAl], by rw [hTBl, htt]; exact hTMok⟩
    have hmul : ∀ xs, apL kx A (apL kx B xs) = apL kx M xs := fun xs => by rw [apL_mul, hM]
    obtain ⟨x, hx⟩ : ∃ x, det kx (ent A) = x := ⟨_, rfl⟩
    obtain ⟨y, hy⟩ : ∃ y, det kx (ent B) = y := ⟨_, rfl⟩
    rw [hx, hy] at hdt
    have hs := matOk.small hMok
    rw [hMl] at hs
    have hzb := det_small hk4 hs
    rw [hdt] at hzb
    obtain ⟨z, hz⟩ : ∃ z, x * y = z := ⟨_, rfl⟩
    rw [hz] at hzb hdt
    obtain ⟨hz1, hz2⟩ := hzb
    have c1 := fun w h hq => Lib.hid (iT_yes kx c d (some ⟨g, 0, none⟩) (some ⟨gx, 0, none⟩) A B w h hq HD.out.1 HD.out.2 hok)
    have c2 := fun w h hq => Lib.hid (sT_yes kx c d (some ⟨g, 0, none⟩) (some ⟨gx, 0, none⟩) A B w h hq HD.out.1 HD.out.2 hok)
    have c3 := fun w h => Lib.hid (iMatDet_yes kx c (some ⟨g, 0, none⟩) A w h HD.out.1 hokA)
    have c4 := fun w h => Lib.hid (iMatDet_yes kx d (some ⟨gx, 0, none⟩) B w h HD.out.2 hokB)
    have c5 := fun (k' : Nat) p w h => Lib.hid (iMatDet_yes kx k' p M w h hMl hMok)
    have c6 := fun w h => Lib.hid (iMatTurn_yes kx c (some ⟨g, 0, none⟩) A w h HD.out.1 hokA)
    have c7 := fun w h => Lib.hid (iMatTurn_yes kx d (some ⟨gx, 0, none⟩) B w h HD.out.2 hokB)
    have c8 := fun (k' : Nat) p w h => Lib.hid (iMatTurn_yes kx k' p M w h hMl hMok)
    have c9 := fun (k' k'' : Nat) p q w h hq => Lib.hid (iT_yes kx k' k'' p q TB TA w h hq hTBl hTAl htok)
    rw [hM] at c1 c2
    rw [hx] at c3
    rw [hy] at c4
    rw [hdt] at c5
    rw [hTA] at c6
    rw [hTB] at c7
    rw [hTM] at c8
    rw [htt] at c9
    have HO := Lib.hid (And.intro hokA (And.intro hokB (And.intro hMok (And.intro hMl (And.intro hMr (And.intro hTMl (And.intro hTMr hmul)))))))
    have hz0 := Lib.hid hz
    clear hok hokA hokB hM hMok hMl hMr turnOk hTA hTB hTM hTAok hTBok hTMok hTAl hTBl hTMl hTMr htt htok hmul hx hy hs hz hdt
    go_upto_region 8 with (first | (go_at_call 20; (with_reducible refine ((c1 _ ?_ ?_).out).mono ?_); (focus ((exact HG.out.1.read); done)); (focus ((exact HG.out.2.read); done)); rintro e wi ⟨gi, ci, bi, rfl, oi, hb_wi⟩; have hs_wi := hb_wi.size; (try simp at hs_wi)) | (go_at_call 21; (with_reducible refine ((c2 _ ?_ ?_).out).mono ?_); (focus ((exact HG.out.1.read.below hb_wi); done)); (focus ((exact HG.out.2.read.below hb_wi); done)); rintro e ws ⟨gs, cs, bs, rfl, os, hb_ws⟩; have hs_ws := hb_ws.size; (try simp at hs_ws)) | (go_at_call 22; (with_reducible refine (sameR_at HO.out.2.2.2.1 _ _ _ _ _ ?_ ?_ (by omega) HO.out.2.2.2.2.1).mono ?_); (focus ((exact oi.read.below hb_ws); done)); (focus ((exact os.read); done)); rintro e wt ⟨rfl, hb_wt⟩; have hs_wt := hb_wt.size; (try simp at hs_wt)))
    have hBt : Below wd.heap.size wd wt := (by repeat (first | assumption | exact Below.refl _ _ | (refine below_chain ?_ (by assumption) (by first | omega | (simp <;> omega) | simp)) | (refine Below.alloc ?_ (by first | omega | (simp <;> omega) | simp) _) | (apply below_drewN) | (apply below_drew) | (refine Below.setCell ?_ (by first | omega | (simp <;> omega) | simp) _)))
    have hBi : Below wi.heap.size wi wt := hb_ws.trans (hb_wt.mono hs_ws)
    have HX := Lib.hid (And.intro (HG.out.1.below hBt) (And.intro (HG.out.2.below hBt) (And.intro (oi.below hBi) (hb_wd.trans (hBt.mono hs_wd)))))
    have hst := HX.out.2.2.2.size
    clear hb_wd hb_wi hb_ws hb_wt hBt hBi oi os HG c1 c2
    go_upto_region 15 with (first | (go_at_call 15; (with_reducible refine ((c3 _ ?_).out).mono ?_); (focus ((exact HX.out.1.read); done)); rintro e wa ⟨rfl, hb_wa⟩; have hs_wa := hb_wa.size; (try simp at hs_wa)) | (go_at_call 15; (with_reducible refine ((c4 _ ?_).out).mono ?_); (focus ((exact HX.out.2.1.read.below hb_wa); done)); rintro e wb ⟨rfl, hb_wb⟩; have hs_wb := hb_wb.size; (try simp at hs_wb)) | (go_at_call 15; (with_reducible refine ((c5 _ _ _ ?_).out).mono ?_); (focus ((exact HX.out.2.2.1.read.below (by repeat (first | assumption | exact Below.refl _ _ | (refine below_chain ?_ (by assumption) (by first | omega | (simp <;> omega) | simp)) | (refine Below.alloc ?_ (by first | omega | (simp <;> omega) | simp) _) | (apply below_drewN) | (apply below_drew) | (refine Below.setCell ?_ (by first | omega | (simp <;> omega) | simp) _)))); done)); rintro e wc ⟨rfl, hb_wc⟩; have hs_wc := hb_wc.size; (try simp at hs_wc)) | (go_at_call 17; (with_reducible refine ((c6 _ ?_).out).mono ?_); (focus ((exact HX.out.1.read.below (by repeat (first | assumption | exact Below.refl _ _ | (refine below_chain ?_ (by assumption) (by first | omega | (simp <;> omega) | simp)) | (refine Below.alloc ?_ (by first | omega | (simp <;> omega) | simp) _) | (apply below_drewN) | (apply below_drew) | (refine Below.setCell ?_ (by first | omega | (simp <;> omega) | simp) _)))); done)); rintro e we ⟨gu, cu, bu, rfl, ou, hb_we⟩; have hs_we := hb_we.size; (try simp at hs_we)) | (go_at_call 17; (with_reducible refine ((c7 _ ?_).out).mono ?_); (focus ((exact HX.out.2.1.read.below (by repeat (first | assumption | exact Below.refl _ _ | (refine below_chain ?_ (by assumption) (by first | omega | (simp <;> omega) | simp)) | (refine Below.alloc ?_ (by first | omega | (simp <;> omega) | simp) _) | (apply below_drewN) | (apply below_drew) | (refine Below.setCell ?_ (by first | omega | (simp <;> omega) | simp) _)))); done)); rintro e wf ⟨gv, cv, bv, rfl, ov, hb_wf⟩; have hs_wf := hb_wf.size; (try simp at hs_wf)) | (go_at_call 20; (with_reducible refine ((c9 _ _ _ _ _ ?_ ?_).out).mono ?_); (focus ((exact ov.read); done)); (focus ((exact ou.read.below hb_wf); done)); rintro e wg ⟨gw, cw, bw, rfl, ow, hb_wg⟩; have hs_wg := hb_wg.size; (try simp at hs_wg)) | (go_at_call 17; (with_reducible refine ((c8 _ _ _ ?_).out).mono ?_); (focus ((exact HX.out.2.2.1.read.below (by repeat (first | assumption | exact Below.refl _ _ | (refine below_chain ?_ (by assumption) (by first | omega | (simp <;> omega) | simp)) | (refine Below.alloc ?_ (by first | omega | (simp <;> omega) | simp) _) | (apply below_drewN) | (apply below_drew) | (refine Below.setCell ?_ (by first | omega | (simp <;> omega) | simp) _)))); done)); rintro e wh ⟨go, co, bo, rfl, oo, hb_wh⟩; have hs_wh := hb_wh.size; (try simp at hs_wh)))
    have hgh : Below wg.heap.size wg wh := hb_wh
    have hBh : Below wt.heap.size wt wh := (by repeat (first | assumption | exact Below.refl _ _ | (refine below_chain ?_ (by assumption) (by first | omega | (simp <;> omega) | simp)) | (refine Below.alloc ?_ (by first | omega | (simp <;> omega) | simp) _) | (apply below_drewN) | (apply below_drew) | (refine Below.setCell ?_ (by first | omega | (simp <;> omega) | simp) _)))
    have hsh := hBh.size
    have HY := Lib.hid (And.intro (HX.out.1.below hBh) (And.intro (HX.out.2.1.below hBh) (And.intro (HX.out.2.2.1.below hBh) (And.intro (ow.below hb_wh) (And.intro oo (HX.out.2.2.2.trans (hBh.mono hst)))))))
    clear hb_wa hb_wb hb_wc hb_we hb_wf hb_wg hb_wh hgh hBh HX ou ov ow oo c3 c4 c5 c6 c7 c8 c9
    go_wp2_with fail
    have HE := Lib.hid (Own.empty wh 3 1)
    go_loopw [25, 26] (fun v i wz => ∃ (j gr cr : Nat) (T : List Int), j ≤ kx ∧ i = .int .i64 j ∧ v = .slice (some ⟨gr, 0, none⟩) j cr ∧ (T.length = j ∧ ∀ x ∈ T, -4 ≤ x ∧ x ≤ 4) ∧ wh.heap.size ≤ gr ∧ Own wz gr 3 1 j cr T ∧ Below wh.heap.size wh wz) (fun _ i _ => kx - (intOf i).toNat)
    case atStart => exact ⟨0, _, _, [], Nat.zero_le _, rfl, rfl, ⟨rfl, by simp⟩, Nat.le_refl _, HE.out, (by repeat (first | assumption | exact Below.refl _ _ | (refine below_chain ?_ (by assumption) (by first | omega | (simp <;> omega) | simp)) | (refine Below.alloc ?_ (by first | omega | (simp <;> omega) | simp) _) | (apply below_drewN) | (apply below_drew) | (refine Below.setCell ?_ (by first | omega | (simp <;> omega) | simp) _)))⟩
    case round =>
      clear HE
      rename World => wz
      obtain ⟨j, gr, cr, T, hj, rfl, rfl, hT, hgr, ho, hbz⟩ := hrel
      have hsz := hbz.size
      have hlo := ho.lt
      have HT := Lib.hid (And.intro ho (And.intro hbz hT))
      clear ho hbz hT
      by_cases hlt : j < kx
      · have hlt' : (j : Int) < (kx : Int) := by omega
        obtain ⟨s, hs, hs16⟩ : ∃ s : Nat, (j : Int) * (j : Int) = (s : Int) ∧ s ≤ 25 := ⟨j * j, by simp, by have := Nat.mul_le_mul (show j ≤ 5 by omega) (show j ≤ 5 by omega); omega⟩
        obtain ⟨t, ht, ht9⟩ : ∃ t : Nat, ((s : Int) + (len2 : Int)) % 9 = (t : Int) ∧ t < 9 := ⟨(s + len2) % 9, by omega, by omega⟩
        go_wp2_with (at_builtin; refine wp_append _ rfl _ _ 29 rfl 3 _ 1 8 Try.underlying29 info_int rfl (by decide) (by decide) gr j cr _ rfl (HT.out.1.alloc _) _ _ _ [(t : Int) - 4] rfl rfl (one_cellA _ _ _) (by omega) ?_; intro g1 d1 w1 hown hg1 hloc hsz1; have HN := Lib.hid (And.intro hown (And.intro hg1 hloc)); clear hown hg1 hloc)
        obtain ⟨hown, hg1, hloc⟩ := HN.out
        exact ⟨⟨j + 1, g1, d1, _, by omega, by go_num, rfl, ⟨by rw [List.length_append, HT.out.2.2.1]; rfl, fun x hx => by
          rcases List.mem_append.1 hx with hx | hx
          · exact HT.out.2.2.2 x hx
          · simp at hx; omega⟩, by rcases hloc with e | e; (omega); (simp at e; omega), hown, below_gr (HT.out.2.1.alloc (by omega) _) hg1 hgr (by simp; omega)⟩, by simp [intOf]; omega⟩
      · have e : j = kx := by omega
        subst e
        have hokT : aplOk B T := ⟨HO.out.2.1, by rw [HT.out.2.2.1, HD.out.2], fun x hx => by have := HT.out.2.2.2 x hx; omega⟩
        have hokM : aplOk M T := ⟨HO.out.2.2.1, by rw [HT.out.2.2.1, HO.out.2.2.2.1], fun x hx => by have := HT.out.2.2.2 x hx; omega⟩
        obtain ⟨C, hC⟩ : ∃ C, apL j B T = C := ⟨_, rfl⟩
        have hCl : C.length = j := by rw [← hC]; simp [apL]
        have hokC : aplOk A C := ⟨HO.out.1, by rw [hCl, HD.out.1], fun x hx => by
          have hs := matOk.small HO.out.2.1
          rw [HD.out.2] at hs
          rw [← hC] at hx
          unfold apL at hx
          obtain ⟨i, hi, rfl⟩ := List.mem_map.1 hx
          have hi' := List.mem_range.1 hi
          have h3 := sm_abs (n := j) (f := fun t => ent B i t * num T t) (c := 4000) (fun t ht => by
            have := aterm_low (e := 4) hs hi' (by omega) HT.out.2.2.2 HT.out.2.2.1 t ht
            omega)
          omega⟩
        obtain ⟨E, hE⟩ : ∃ E, apL j A C = E := ⟨_, rfl⟩
        have hEl : E.length = j := by rw [← hE]; simp [apL]
        have hME : apL j M T = E := by rw [← HO.out.2.2.2.2.2.2.2, hC, hE]
        have c1 := fun w h hq => Lib.hid (iMatApply_yes j d cr (some ⟨gx, 0, none⟩) (some ⟨gr, 0, none⟩) B T w h hq HD.out.2 hokT)
        have c2 := fun (k' : Nat) q w h hq => Lib.hid (iMatApply_yes j c k' (some ⟨g, 0, none⟩) q A C w h hq HD.out.1 hokC)
        have c3 := fun w h hq => Lib.hid (iMatApply_yes j ci cr (some ⟨gi, 0, none⟩) (some ⟨gr, 0, none⟩) M T w h hq HO.out.2.2.2.1 hokM)
        rw [hC] at c1
        rw [hE] at c2
        rw [hME] at c3
        have hEl0 := Lib.hid hEl
        clear hokT hokM hC hCl hokC hE hEl hME
        have hxy := hz0.out
        go_wp2_with (first | (go_at_call 23; (with_reducible refine ((c1 _ ?_ ?_).out).mono ?_); (focus ((exact HY.out.2.1.read.below HT.out.2.1); done)); (focus ((exact HT.out.1.ints); done)); rintro e wa ⟨ga, ca, rfl, hga, oa, hb_wa⟩; have hs_wa := hb_wa.size; (try simp at hs_wa)) | (go_at_call 23; (with_reducible refine ((c2 _ _ _ ?_ ?_).out).mono ?_); (focus ((exact (HY.out.1.read.below HT.out.2.1).below hb_wa); done)); (focus ((exact oa.ints); done)); rintro e wb ⟨gb, cb, rfl, hgb, ob, hb_wb⟩; have hs_wb := hb_wb.size; (try simp at hs_wb)) | (go_at_call 23; (with_reducible refine ((c3 _ ?_ ?_).out).mono ?_); (focus ((exact ((HY.out.2.2.1.read.below HT.out.2.1).below hb_wa).below hb_wb); done)); (focus ((exact (HT.out.1.ints.below hb_wa).below hb_wb); done)); rintro e wc ⟨gc, cc, rfl, hgc, oc, hb_wc⟩; have hs_wc := hb_wc.size; (try simp at hs_wc)) | (go_at_call 22; (with_reducible refine (sameR_at HO.out.2.2.2.2.2.1 _ _ _ _ _ ?_ ?_ (by omega) HO.out.2.2.2.2.2.2.1).mono ?_); (focus ((exact (((HY.out.2.2.2.1.read.below HT.out.2.1).below hb_wa).below hb_wb).below hb_wc); done)); (focus ((exact (((HY.out.2.2.2.2.1.read.below HT.out.2.1).below hb_wa).below hb_wb).below hb_wc); done)); rintro e we ⟨rfl, hb_we⟩; have hs_we := hb_we.size; (try simp at hs_we)) | (go_at_call 24; (with_reducible refine (sameI_at hEl0.out _ _ _ _ _ ?_ ?_ (by omega)).mono ?_); (focus ((exact (ob.ints.below hb_wc).below hb_we); done)); (focus ((exact oc.ints.below hb_we); done)); rintro e wf ⟨rfl, hb_wf⟩; have hs_wf := hb_wf.size; (try simp at hs_wf)))
        have h6 : Below wz.heap.size wz wf := (by repeat (first | assumption | exact Below.refl _ _ | (refine below_chain ?_ (by assumption) (by first | omega | (simp <;> omega) | simp)) | (refine Below.alloc ?_ (by first | omega | (simp <;> omega) | simp) _) | (apply below_drewN) | (apply below_drew) | (refine Below.setCell ?_ (by first | omega | (simp <;> omega) | simp) _)))
        have h7 := HY.out.2.2.2.2.2.trans (HT.out.2.1.mono HY.out.2.2.2.2.2.size)
        exact bodyPost_ret (v := .bool true) (by simp [results, Try.results5, go_sem]) rfl ⟨rfl, h7.trans (h6.mono h7.size)⟩
  · have c1 := fun w h hq => Lib.hid (iT_no k kx c d (some ⟨g, 0, none⟩) (some ⟨gx, 0, none⟩) A B w h hq HD.out.1 HD.out.2 (by omega) (by omega) hok)
    have c2 := fun w h hq => Lib.hid (sT_no k kx c d (some ⟨g, 0, none⟩) (some ⟨gx, 0, none⟩) A B w h hq HD.out.1 HD.out.2 (by omega) (by omega) hok)
    clear hok
    go_wp2_with (first | (go_at_call 20; (with_reducible refine ((c1 _ ?_ ?_).out).mono ?_); (focus ((exact HG.out.1.read); done)); (focus ((exact HG.out.2.read); done)); rintro e wi ⟨⟨qi, di, rfl⟩, hb_wi⟩; have hs_wi := hb_wi.size; (try simp at hs_wi)) | (go_at_call 21; (with_reducible refine ((c2 _ ?_ ?_).out).mono ?_); (focus ((exact HG.out.1.read.below hb_wi); done)); (focus ((exact HG.out.2.read.below hb_wi); done)); rintro e ws ⟨⟨gs, rfl⟩, hb_ws⟩; have hs_ws := hb_ws.size; (try simp at hs_ws)) | (go_at_call 22; (with_reducible refine (sameR_nil _ _ _ _ _).mono ?_); rintro e wt ⟨rfl, hb_wt⟩; have hs_wt := hb_wt.size; (try simp at hs_wt)))
    exact bodyPost_ret (v := .bool true) (by simp [results, Try.results5, go_sem]) rfl ⟨rfl, (by repeat (first | assumption | exact Below.refl _ _ | (refine below_chain ?_ (by assumption) (by first | omega | (simp <;> omega) | simp)) | (refine Below.alloc ?_ (by first | omega | (simp <;> omega) | simp) _) | (apply below_drewN) | (apply below_drew) | (refine Below.setCell ?_ (by first | omega | (simp <;> omega) | simp) _)))⟩

set_option maxRecDepth 100000 in
theorem walk_long (len cap : Nat) (p : Option Addr) (len1 cap1 : Nat) (p1 : Option Addr) (w : World) (hl : 1048576 < len ∨ 1048576 < len1) :
    Calls Try.prog 5 #[.slice p len cap, .slice p1 len1 cap1] w fun e w' => e = .returned (.bool true) ∧ Below w.heap.size w w' := by
  by_cases h0 : (1048576 : Int) < (len : Int)
  · go_enter Try.func5, Try.ntmps5
    go_wp2
    go_ret
    exact ⟨rfl, Below.refl _ _⟩
  · have hl' : (1048576 : Int) < (len1 : Int) := by omega
    clear hl
    go_enter Try.func5, Try.ntmps5
    go_wp2
    go_ret
    exact ⟨rfl, Below.refl _ _⟩

set_option maxRecDepth 100000 in
theorem lifted (os : Os) (started : os.Started) (H : Type) (enc : TypeId × Value → H) :
    ReturnsInHanded {} Try.checked os 5 .any (Rows.fnDetTimesSpec.pre6 enc Try.prog Try.f5 Rows.fnDetTimesRow.domain false) (Rows.fnDetTimesSpec.post enc Try.prog Try.f5 false true false false) := by
  refine returnsInHanded_of_change (C := Try.checked) own started (by kernel_rfl) Try.func5
    (ChangeSpec.witness6 (enc := enc) (C := Try.checked) false ⟨#[], #[.slice none 0 0, .slice none 0 0], []⟩ 8 (by kernel_rfl) (by kernel_rfl) (by kernel_rfl) (by kernel_rfl)) ?_
  intro W base args ds gs before hval0 hW hcnd _
  have hval : ∀ (j : Nat) t v, Try.f5.params[j]? = some t → args[j]? = some v → Value.okWide Try.prog W .any base t v := hval0
  have hW' := hW
  obtain ⟨p, q, hA0, hV, rfl, hfz, hnd⟩ := hW
  have hA : DataW.TrodAll enc Try.prog W 0 (fun _ => true) true Try.f5.params.toList args.toList ds p := hA0
  rw [Try.params5] at hA hval
  obtain ⟨v0, vs0, d0, ds0, p0, q0, hargs, rfl, rfl, h0, r0⟩ := trodAll_cons hA
  obtain ⟨v1, vs1, d1, ds1, p1, q1, rfl, rfl, rfl, h1, r1⟩ := trodAll_cons r0
  obtain ⟨rfl, rfl, rfl⟩ := trodAll_nil r1
  obtain rfl : args = #[v0, v1] := by cases args; simp_all
  obtain ⟨rfl, rfl⟩ := trodVars_none hV
  obtain ⟨a0, len0, cap0, rfl⟩ := okWide_slice Try.underlying22 (hval 0 22 v0 rfl rfl)
  have k0 := h0
  have lt0 : ∀ x ∈ p0, x.block < W.heap.size := by obtain ⟨m, hm⟩ := k0; exact DataW.trod_lt m _ _ _ hm
  obtain ⟨z0, w0⟩ : ∃ zs, IsRow .u8 W a0 len0 cap0 zs := by
    obtain ⟨fuel, hf⟩ := h0
    rcases open_ints Try.underlying22 Try.underlying5 (by kernel_rfl) hf with ⟨hcs, _⟩ | ⟨x, l, c, zs, hcs, _, hl, hm, hz, _, hcell, hwz⟩
    · simp [Value.cells] at hcs
      obtain ⟨rfl, rfl, rfl⟩ := hcs
      exact ⟨[], .inl ⟨rfl, rfl, rfl, rfl⟩⟩
    · simp [Value.cells] at hcs
      obtain ⟨rfl, rfl, rfl⟩ := hcs
      exact ⟨zs, .inr ⟨_, rfl, hl, hm, by simpa using hz, hcell, hwz⟩⟩
  obtain ⟨a1, len1, cap1, rfl⟩ := okWide_slice Try.underlying22 (hval 1 22 v1 rfl rfl)
  have k1 := h1
  have lt1 : ∀ x ∈ p1, x.block < W.heap.size := by obtain ⟨m, hm⟩ := k1; exact DataW.trod_lt m _ _ _ hm
  obtain ⟨z1, w1⟩ : ∃ zs, IsRow .u8 W a1 len1 cap1 zs := by
    obtain ⟨fuel, hf⟩ := h1
    rcases open_ints Try.underlying22 Try.underlying5 (by kernel_rfl) hf with ⟨hcs, _⟩ | ⟨x, l, c, zs, hcs, _, hl, hm, hz, _, hcell, hwz⟩
    · simp [Value.cells] at hcs
      obtain ⟨rfl, rfl, rfl⟩ := hcs
      exact ⟨[], .inl ⟨rfl, rfl, rfl, rfl⟩⟩
    · simp [Value.cells] at hcs
      obtain ⟨rfl, rfl, rfl⟩ := hcs
      exact ⟨zs, .inr ⟨_, rfl, hl, hm, by simpa using hz, hcell, hwz⟩⟩
  clear hA0 hval0
  have hw : Calls Try.prog 5 #[.slice a0 len0 cap0, .slice a1 len1 cap1] W fun e w' => e = .returned (.bool true) ∧ Below W.heap.size W w' := by
    by_cases hl : len0 ≤ 1048576
    · by_cases hm : len1 ≤ 1048576
      · exact walk len0 cap0 a0 len1 cap1 a1 W hl hm (Lib.hid (code_of_row w0 hl)) (Lib.hid (code_of_row w1 hm))
      · exact walk_long len0 cap0 a0 len1 cap1 a1 W (by omega)
    · exact walk_long len0 cap0 a0 len1 cap1 a1 W (by omega)
  refine hw.mono fun e W' ⟨he, bel⟩ => ?_
  subst he
  exact ⟨_, rfl, _, _, _, [], _, [], hW', trodAll_mk1 (shut_bool Try.underlying4 _), (trodAll_cons_mk (Below.trod laidOut (by kernel_rfl) (of_decide_eq_true (by kernel_rfl)) k0 bel lt0) (trodAll_cons_mk (Below.trod laidOut (by kernel_rfl) (of_decide_eq_true (by kernel_rfl)) k1 bel lt1) trodAll_mk0)), rfl, bel.frame _, fun h => by cases h⟩

theorem over : Rows.fnDetTimesRow.holds Try.pinned (OpenSpec.ofChange Rows.fnDetTimesSpec) :=
  OpenClaim.holds_of_wide 5 Try.f5 rfl rfl rfl rfl rfl rfl rfl ⟨rfl, rfl, rfl, rfl, rfl⟩ rfl rfl rfl rfl rfl (by kernel_rfl) Try.func5 (by kernel_rfl)
    (of_decide_eq_true (by kernel_rfl)) (by unfold Func.isWrapper; first | (rw [if_pos (by decide +kernel)]; kernel_rfl) | (rw [if_neg (by decide +kernel)]; exact ⟨rfl, rfl⟩))
    (fun os started H enc _ => lifted os started H enc)

theorem proved : Rows.FnDetTimesSaid := over
end Go.Proofs.Ythpfhbogpnhgmaa.fnDetTimes

