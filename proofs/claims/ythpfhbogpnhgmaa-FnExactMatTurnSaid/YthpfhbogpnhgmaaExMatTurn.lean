/-
  For every list of lists of numbers the law FnExactMatTurn returns true: impl.MatTurn answers as the reference model does, leaves its argument as it was, and its rows are memory of their own. No condition: every list of lists is taken.
-/
import Derived.Test.YthpfhbogpnhgmaaNk2
import Derived.Test.YthpfhbogpnhgmaaMi
import Derived.Test.YthpfhbogpnhgmaaGOpen
namespace Go.Proofs.Ythpfhbogpnhgmaa.fnExactMatTurn
open Go.ChangeShapes Go.WideShapes Go.ChangeAt Go.RowKit
set_option linter.unusedVariables false

set_option maxHeartbeats 4000000 in
set_option maxRecDepth 100000 in
theorem walk (w : World) (p : Option Addr) (c : Nat) (L : List (List Int)) (h : GRead w p L) (hl : L.length ≤ 9223372036854775807 ∧ ∀ r ∈ L, r.length ≤ 9223372036854775807) :
    Calls Try.prog 10 #[.slice p L.length c] w fun e w' => e = .returned (.bool true) ∧ Below w.heap.size w w' := by
  have H := Lib.hid h
  have HL := Lib.hid hl
  clear h hl
  go_enter Try.func10, Try.ntmps10
  go_upto_region 3 with (go_at_call 30; (with_reducible refine (szG c p L 1048576 _ H.out HL.out.1 HL.out.2 (by omega) (by omega)).mono ?_); rintro e w' ⟨u, rfl, rfl, hu1, hu2⟩)
  by_cases hu : u < 0
  · clear hu2
    go_wp2_with fail
    go_ret
    exact ⟨rfl, Below.refl _ _⟩
  · obtain ⟨hk, hr⟩ := hu2 (by omega)
    have hr0 := Lib.hid hr
    obtain ⟨b, hb⟩ : ∃ b, matOk L = b := ⟨_, rfl⟩
    have hb0 := Lib.hid hb
    have hk3 : L.length ≤ 4000000000000000000 := by omega
    have hgs : gsum L ≤ 1099511627776 := by have := gsum_small hk hr L.length; rwa [List.take_length] at this
    clear hb hr hu2
    cases b
    · go_wp2_with ((go_at_call 32; (with_reducible refine (toG _ c p L _ ?_ rfl hk hr0.out).mono ?_); (focus ((exact H.out); done)); rintro e wa ⟨ba, rfl, oa, hb_wa⟩; have hs_wa := hb_wa.size; (try simp at hs_wa)))
      have OA := Lib.hid oa
      clear oa
      go_wp2_with ((go_at_call 35; (with_reducible refine (sMatTurn_no _ _ _ L _ ?_ rfl hk3 hb0.out).mono ?_); (focus ((exact OA.out.read); done)); rintro e ws ⟨⟨gs, rfl⟩, hb_ws⟩; have hs_ws := hb_ws.size; (try simp at hs_ws)))
      go_wp2_with ((go_at_call 32; (with_reducible refine (toG _ c p L _ ?_ rfl hk hr0.out).mono ?_); (focus ((exact H.out.below (by repeat (first | assumption | exact Below.refl _ _ | (refine below_chain ?_ (by assumption) (by first | omega | (simp <;> omega) | simp)) | (refine Below.alloc ?_ (by first | omega | (simp <;> omega) | simp) _) | (apply below_drewN) | (apply below_drew) | (refine Below.setCell ?_ (by first | omega | (simp <;> omega) | simp) _)))); done)); rintro e wb ⟨bb, rfl, ob, hb_wb⟩; have hs_wb := hb_wb.size; (try simp at hs_wb)))
      have OB := Lib.hid ob
      clear ob
      go_wp2_with ((go_at_call 17; (with_reducible refine (iMatTurn_no _ _ _ L _ ?_ rfl hk3 hb0.out).mono ?_); (focus ((exact OB.out.read); done)); rintro e wi ⟨⟨qi, di, rfl⟩, hb_wi⟩; have hs_wi := hb_wi.size; (try simp at hs_wi)))
      go_wp2_with ((go_at_call 34; (with_reducible refine (eqG_nil _ _ _ _ _).mono ?_); rintro e we ⟨rfl, hb_we⟩; have hs_we := hb_we.size; (try simp at hs_we)))
      go_wp2_with ((go_at_call 32; (with_reducible refine (toG _ c p L _ ?_ rfl hk hr0.out).mono ?_); (focus ((exact H.out.below (by repeat (first | assumption | exact Below.refl _ _ | (refine below_chain ?_ (by assumption) (by first | omega | (simp <;> omega) | simp)) | (refine Below.alloc ?_ (by first | omega | (simp <;> omega) | simp) _) | (apply below_drewN) | (apply below_drew) | (refine Below.setCell ?_ (by first | omega | (simp <;> omega) | simp) _)))); done)); rintro e wc ⟨bc, rfl, oc, hb_wc⟩; have hs_wc := hb_wc.size; (try simp at hs_wc)))
      have OC := Lib.hid oc
      clear oc
      go_wp2_with ((go_at_call 34; (with_reducible refine (eqG _ _ _ _ L _ ?_ ?_ hk hr0.out).mono ?_); (focus ((exact OB.out.read.below (by repeat (first | assumption | exact Below.refl _ _ | (refine below_chain ?_ (by assumption) (by first | omega | (simp <;> omega) | simp)) | (refine Below.alloc ?_ (by first | omega | (simp <;> omega) | simp) _) | (apply below_drewN) | (apply below_drew) | (refine Below.setCell ?_ (by first | omega | (simp <;> omega) | simp) _)))); done)); (focus ((exact OC.out.read); done)); rintro e wf ⟨rfl, hb_wf⟩; have hs_wf := hb_wf.size; (try simp at hs_wf)))
      have hBw : Below w.heap.size w ws := (by repeat (first | assumption | exact Below.refl _ _ | (refine below_chain ?_ (by assumption) (by first | omega | (simp <;> omega) | simp)) | (refine Below.alloc ?_ (by first | omega | (simp <;> omega) | simp) _) | (apply below_drewN) | (apply below_drew) | (refine Below.setCell ?_ (by first | omega | (simp <;> omega) | simp) _)))
      have hBf : Below wb.heap.size wb wf := (by repeat (first | assumption | exact Below.refl _ _ | (refine below_chain ?_ (by assumption) (by first | omega | (simp <;> omega) | simp)) | (refine Below.alloc ?_ (by first | omega | (simp <;> omega) | simp) _) | (apply below_drewN) | (apply below_drew) | (refine Below.setCell ?_ (by first | omega | (simp <;> omega) | simp) _)))
      have hzw := hBw.size
      have hzb : ws.heap.size ≤ wb.heap.size := hs_wb
      have HK := Lib.hid (And.intro (OB.out.below hBf) (And.intro (hBw.trans ((hb_wb.trans (hBf.mono hzb)).mono hzw)) (fun (i b c : Nat) (h : bb[i]? = some (b, c)) => OB.out.z i b c h)))
      clear hb_wa hb_ws hb_wb hb_wi hb_we hb_wc hb_wf OA OC
      go_wp2_with (go_at_call 36; (with_reducible refine (markG ws.heap.size wb.heap.size L.length _ _ bb L _ ?_ rfl hk hr0.out HK.out.2.2).mono ?_); (focus (exact HK.out.1; done)); rintro e wg ⟨rfl, og, hbw_g⟩; have HGm := Lib.hid (And.intro og hbw_g); clear og hbw_g)
      have Bg := Lib.hid (HK.out.2.1.trans (HGm.out.2.below.mono hzw))
      have hzg := Bg.out.size
      clear hzb HK HGm hBf hBw OB
      go_wp2_with ((go_at_call 34; (with_reducible refine (eqG_nil _ _ _ _ _).mono ?_); rintro e wh ⟨rfl, hb_wh⟩; have hs_wh := hb_wh.size; (try simp at hs_wh)))
      go_wp2_with (go_at_call 36; (with_reducible refine (markG_nil _ _ _).mono ?_); rintro e w' ⟨rfl, rfl⟩)
      go_wp2_with (go_at_call 37; (with_reducible refine (heldG_nil _ _ _).mono ?_); rintro e w' ⟨rfl, rfl⟩)
      go_wp2_with ((go_at_call 32; (with_reducible refine (toG _ c p L _ ?_ rfl hk hr0.out).mono ?_); (focus ((exact (H.out.below Bg.out).below (by repeat (first | assumption | exact Below.refl _ _ | (refine below_chain ?_ (by assumption) (by first | omega | (simp <;> omega) | simp)) | (refine Below.alloc ?_ (by first | omega | (simp <;> omega) | simp) _) | (apply below_drewN) | (apply below_drew) | (refine Below.setCell ?_ (by first | omega | (simp <;> omega) | simp) _)))); done)); rintro e wj ⟨bj, rfl, oj, hb_wj⟩; have hs_wj := hb_wj.size; (try simp at hs_wj)))
      have OJ := Lib.hid oj
      clear oj
      go_wp2_with ((go_at_call 17; (with_reducible refine (iMatTurn_no _ _ _ L _ ?_ rfl hk3 hb0.out).mono ?_); (focus ((exact OJ.out.read); done)); rintro e wk ⟨⟨qk, dk, rfl⟩, hb_wk⟩; have hs_wk := hb_wk.size; (try simp at hs_wk)))
      go_wp2_with ((go_at_call 34; (with_reducible refine (eqG_nil _ _ _ _ _).mono ?_); rintro e wl ⟨rfl, hb_wl⟩; have hs_wl := hb_wl.size; (try simp at hs_wl)))
      go_wp2_with (go_at_call 37; (with_reducible refine (heldG_nil _ _ _).mono ?_); rintro e w' ⟨rfl, rfl⟩)
      go_ret
      exact ⟨rfl, Bg.out.trans ((show Below wg.heap.size wg wl from (by repeat (first | assumption | exact Below.refl _ _ | (refine below_chain ?_ (by assumption) (by first | omega | (simp <;> omega) | simp)) | (refine Below.alloc ?_ (by first | omega | (simp <;> omega) | simp) _) | (apply below_drewN) | (apply below_drew) | (refine Below.setCell ?_ (by first | omega | (simp <;> omega) | simp) _)))).mono hzg)⟩
    · have hk5 : L.length ≤ 5 := by have := (matOk_true.1 hb0.out).2.1; omega
      obtain ⟨M, hM⟩ : ∃ M, mkL L.length (trn (ent L)) = M := ⟨_, rfl⟩
      have c1 := fun (k' : Nat) p w h => Lib.hid (sMatTurn_yes L.length k' p L w h rfl hb0.out)
      have c2 := fun (k' : Nat) p w h => Lib.hid (iMatTurn_yes L.length k' p L w h rfl hb0.out)
      rw [hM] at c1 c2
      have hMs : Sq L.length M := by rw [← hM]; exact mkL_sq
      have hMr : ∀ r ∈ M, r.length ≤ 1048576 := fun r hr => by rw [hMs.2 r hr]; exact hk
      have hMl := hMs.1
      have hgM : gsum M ≤ 1099511627776 := by have := gsum_small (by rw [hMl]; exact hk) hMr M.length; rwa [List.take_length] at this
      have HM := Lib.hid (And.intro hMl hMr)
      clear hM hMs hMr hMl
      go_wp2_with ((go_at_call 32; (with_reducible refine (toG _ c p L _ ?_ rfl hk hr0.out).mono ?_); (focus ((exact H.out); done)); rintro e wa ⟨ba, rfl, oa, hb_wa⟩; have hs_wa := hb_wa.size; (try simp at hs_wa)))
      have OA := Lib.hid oa
      clear oa
      go_wp2_with ((go_at_call 35; (with_reducible refine ((c1 _ _ _ ?_).out).mono ?_); (focus ((exact OA.out.read); done)); rintro e ws ⟨gs, cs, bs, rfl, os, hb_ws⟩; have hs_ws := hb_ws.size; (try simp at hs_ws)))
      have OS := Lib.hid os
      clear os
      go_wp2_with ((go_at_call 32; (with_reducible refine (toG _ c p L _ ?_ rfl hk hr0.out).mono ?_); (focus ((exact H.out.below (by repeat (first | assumption | exact Below.refl _ _ | (refine below_chain ?_ (by assumption) (by first | omega | (simp <;> omega) | simp)) | (refine Below.alloc ?_ (by first | omega | (simp <;> omega) | simp) _) | (apply below_drewN) | (apply below_drew) | (refine Below.setCell ?_ (by first | omega | (simp <;> omega) | simp) _)))); done)); rintro e wb ⟨bb, rfl, ob, hb_wb⟩; have hs_wb := hb_wb.size; (try simp at hs_wb)))
      have OB := Lib.hid ob
      clear ob
      go_wp2_with ((go_at_call 17; (with_reducible refine ((c2 _ _ _ ?_).out).mono ?_); (focus ((exact OB.out.read); done)); rintro e wi ⟨gi, ci, bi, rfl, oi, hb_wi⟩; have hs_wi := hb_wi.size; (try simp at hs_wi)))
      have OI := Lib.hid oi
      clear oi
      go_wp2_with ((go_at_call 34; (with_reducible refine (eqG_at HM.out.1 _ _ _ _ _ ?_ ?_ hk HM.out.2).mono ?_); (focus ((exact OI.out.read); done)); (focus ((exact OS.out.read.below (by repeat (first | assumption | exact Below.refl _ _ | (refine below_chain ?_ (by assumption) (by first | omega | (simp <;> omega) | simp)) | (refine Below.alloc ?_ (by first | omega | (simp <;> omega) | simp) _) | (apply below_drewN) | (apply below_drew) | (refine Below.setCell ?_ (by first | omega | (simp <;> omega) | simp) _)))); done)); rintro e we ⟨rfl, hb_we⟩; have hs_we := hb_we.size; (try simp at hs_we)))
      go_wp2_with ((go_at_call 32; (with_reducible refine (toG _ c p L _ ?_ rfl hk hr0.out).mono ?_); (focus ((exact H.out.below (by repeat (first | assumption | exact Below.refl _ _ | (refine below_chain ?_ (by assumption) (by first | omega | (simp <;> omega) | simp)) | (refine Below.alloc ?_ (by first | omega | (simp <;> omega) | simp) _) | (apply below_drewN) | (apply below_drew) | (refine Below.setCell ?_ (by first | omega | (simp <;> omega) | simp) _)))); done)); rintro e wc ⟨bc, rfl, oc, hb_wc⟩; have hs_wc := hb_wc.size; (try simp at hs_wc)))
      have OC := Lib.hid oc
      clear oc
      go_wp2_with ((go_at_call 34; (with_reducible refine (eqG _ _ _ _ L _ ?_ ?_ hk hr0.out).mono ?_); (focus ((exact OB.out.read.below (by repeat (first | assumption | exact Below.refl _ _ | (refine below_chain ?_ (by assumption) (by first | omega | (simp <;> omega) | simp)) | (refine Below.alloc ?_ (by first | omega | (simp <;> omega) | simp) _) | (apply below_drewN) | (apply below_drew) | (refine Below.setCell ?_ (by first | omega | (simp <;> omega) | simp) _)))); done)); (focus ((exact OC.out.read); done)); rintro e wf ⟨rfl, hb_wf⟩; have hs_wf := hb_wf.size; (try simp at hs_wf)))
      -- the argument's copy is marked
      have hBi : Below wi.heap.size wi wf := (by repeat (first | assumption | exact Below.refl _ _ | (refine below_chain ?_ (by assumption) (by first | omega | (simp <;> omega) | simp)) | (refine Below.alloc ?_ (by first | omega | (simp <;> omega) | simp) _) | (apply below_drewN) | (apply below_drew) | (refine Below.setCell ?_ (by first | omega | (simp <;> omega) | simp) _)))
      have hBf : Below wb.heap.size wb wf := (by repeat (first | assumption | exact Below.refl _ _ | (refine below_chain ?_ (by assumption) (by first | omega | (simp <;> omega) | simp)) | (refine Below.alloc ?_ (by first | omega | (simp <;> omega) | simp) _) | (apply below_drewN) | (apply below_drew) | (refine Below.setCell ?_ (by first | omega | (simp <;> omega) | simp) _)))
      have hBs : Below ws.heap.size ws wf := (by repeat (first | assumption | exact Below.refl _ _ | (refine below_chain ?_ (by assumption) (by first | omega | (simp <;> omega) | simp)) | (refine Below.alloc ?_ (by first | omega | (simp <;> omega) | simp) _) | (apply below_drewN) | (apply below_drew) | (refine Below.setCell ?_ (by first | omega | (simp <;> omega) | simp) _)))
      have hBw : Below w.heap.size w wb := (by repeat (first | assumption | exact Below.refl _ _ | (refine below_chain ?_ (by assumption) (by first | omega | (simp <;> omega) | simp)) | (refine Below.alloc ?_ (by first | omega | (simp <;> omega) | simp) _) | (apply below_drewN) | (apply below_drew) | (refine Below.setCell ?_ (by first | omega | (simp <;> omega) | simp) _)))
      have hzw := hBw.size
      have hzi : wb.heap.size ≤ wi.heap.size := hs_wi
      have hzs : ws.heap.size ≤ wb.heap.size := hs_wb
      have hza : w.heap.size ≤ wa.heap.size := hs_wa
      have hzsa : wa.heap.size ≤ ws.heap.size := hs_ws
      have HK := Lib.hid (And.intro (OB.out.below hBf) (And.intro (hBw.trans (hBf.mono hzw)) (And.intro (fun (i b c : Nat) (h : bb[i]? = some (b, c)) => OB.out.z i b c h) (And.intro (OI.out.below hBi) (OS.out.read.below hBs)))))
      have HS := Lib.hid (And.intro (OS.out.below hBs) (fun (i b c : Nat) (h : bs[i]? = some (b, c)) => OS.out.z i b c h))
      have HIz := Lib.hid (fun (i b c : Nat) (h : bi[i]? = some (b, c)) => OI.out.z i b c h)
      have hgsl := OS.out.lt
      have HSz := Lib.hid (fun (i b c : Nat) (h : bs[i]? = some (b, c)) => OS.out.z i b c h)
      clear hb_wa hb_ws hb_wb hb_wi hb_we hb_wc hb_wf OA OC OB OS hBw hBs hBf hBi
      go_wp2_with (go_at_call 36; (with_reducible refine (markG ws.heap.size wb.heap.size L.length _ _ bb L _ ?_ rfl hk hr0.out HK.out.2.2.1).mono ?_); (focus (exact HK.out.1; done)); rintro e wg ⟨rfl, og, hbw_g⟩; have HGm := Lib.hid hbw_g; clear og hbw_g)
      have hOI := Betw.grid HK.out.2.2.2.1 HGm.out (Nat.le_refl _)
      have hOS := HS.out.1.under HGm.out.below hgsl HS.out.2
      have Bg := Lib.hid (HK.out.2.1.trans (HGm.out.below.mono (by omega)))
      have hzg := Bg.out.size
      have HO := Lib.hid (And.intro hOI hOS)
      have hgsz := hOS.lt
      have hgiz := hOI.lt
      have hzz : Hid (∀ (i b c : Nat), bs[i]? = some (b, c) → b < wg.heap.size) := Lib.hid (fun i b c h => hOS.z i b c h)
      have hwi : wi.heap.size ≤ wg.heap.size := by have := HGm.out.1; omega
      clear HK HS HGm hOI hOS
      go_wp2_with ((go_at_call 34; (with_reducible refine (eqG_at HM.out.1 _ _ _ _ _ ?_ ?_ hk HM.out.2).mono ?_); (focus ((exact HO.out.1.read); done)); (focus ((exact HO.out.2.read); done)); rintro e wh ⟨rfl, hb_wh⟩; have hs_wh := hb_wh.size; (try simp at hs_wh)))
      have HO2 := Lib.hid (And.intro (HO.out.1.below hb_wh) (And.intro (HO.out.2.below hb_wh) (Bg.out.trans (hb_wh.mono hzg))))
      clear HO Bg
      go_wp2_with (go_at_call 36; (with_reducible refine (markG wb.heap.size wi.heap.size L.length _ _ bi M _ ?_ HM.out.1 hk HM.out.2 HIz.out).mono ?_); (focus (exact HO2.out.1; done)); rintro e wm ⟨rfl, om, hbw_m⟩; have HMm := Lib.hid (And.intro om hbw_m); clear om hbw_m)
      have hOS := HO2.out.2.1.under (HMm.out.2.below.mono hzs) hgsl HSz.out
      have Bm := Lib.hid (HO2.out.2.2.trans (HMm.out.2.below.mono (show w.heap.size ≤ wb.heap.size from hzw)))
      have HP := Lib.hid (And.intro HMm.out.1 hOS)
      have hzm := Bm.out.size
      have hgizm := HMm.out.1.lt
      have hgszm := hOS.lt
      clear HO2 HMm hOS HSz HIz
      go_wp2_with (go_at_call 37; (with_reducible refine (heldG L.length _ _ M _ ?_ HM.out.1 hk HM.out.2).mono ?_); (focus (exact HP.out.1.read; done)); rintro e w' ⟨rfl, rfl⟩)
      go_wp2_with ((go_at_call 32; (with_reducible refine (toG _ c p L _ ?_ rfl hk hr0.out).mono ?_); (focus ((exact H.out.below Bm.out); done)); rintro e wj ⟨bj, rfl, oj, hb_wj⟩; have hs_wj := hb_wj.size; (try simp at hs_wj)))
      have OJ := Lib.hid oj
      clear oj
      go_wp2_with ((go_at_call 17; (with_reducible refine ((c2 _ _ _ ?_).out).mono ?_); (focus ((exact OJ.out.read); done)); rintro e wk ⟨gk, ck, bk, rfl, ok, hb_wk⟩; have hs_wk := hb_wk.size; (try simp at hs_wk)))
      have OK := Lib.hid ok
      clear ok
      go_wp2_with ((go_at_call 34; (with_reducible refine (eqG_at HM.out.1 _ _ _ _ _ ?_ ?_ hk HM.out.2).mono ?_); (focus ((exact OK.out.read); done)); (focus ((exact HP.out.2.read.below (by repeat (first | assumption | exact Below.refl _ _ | (refine below_chain ?_ (by assumption) (by first | omega | (simp <;> omega) | simp)) | (refine Below.alloc ?_ (by first | omega | (simp <;> omega) | simp) _) | (apply below_drewN) | (apply below_drew) | (refine Below.setCell ?_ (by first | omega | (simp <;> omega) | simp) _)))); done)); rintro e wl ⟨rfl, hb_wl⟩; have hs_wl := hb_wl.size; (try simp at hs_wl)))
      go_wp2_with (go_at_call 37; (with_reducible refine (heldG L.length _ _ M _ ?_ HM.out.1 hk HM.out.2).mono ?_); (focus (exact HP.out.1.read.below (by repeat (first | assumption | exact Below.refl _ _ | (refine below_chain ?_ (by assumption) (by first | omega | (simp <;> omega) | simp)) | (refine Below.alloc ?_ (by first | omega | (simp <;> omega) | simp) _) | (apply below_drewN) | (apply below_drew) | (refine Below.setCell ?_ (by first | omega | (simp <;> omega) | simp) _))); done)); rintro e w' ⟨rfl, rfl⟩)
      go_ret
      exact ⟨rfl, Bm.out.trans ((show Below wm.heap.size wm wl from (by repeat (first | assumption | exact Below.refl _ _ | (refine below_chain ?_ (by assumption) (by first | omega | (simp <;> omega) | simp)) | (refine Below.alloc ?_ (by first | omega | (simp <;> omega) | simp) _) | (apply below_drewN) | (apply below_drew) | (refine Below.setCell ?_ (by first | omega | (simp <;> omega) | simp) _)))).mono hzm)⟩

set_option maxRecDepth 100000 in
theorem lifted (os : Os) (started : os.Started) (H : Type) (enc : TypeId × Value → H) :
    ReturnsInHanded {} Try.checked os 10 .any (Rows.fnExactMatTurnSpec.pre6 enc Try.prog Try.f10 Rows.fnExactMatTurnRow.domain false) (Rows.fnExactMatTurnSpec.post enc Try.prog Try.f10 false true false false) := by
  refine returnsInHanded_of_change (C := Try.checked) own started (by kernel_rfl) Try.func10
    (ChangeSpec.witness6 (enc := enc) (C := Try.checked) false ⟨#[], #[.slice none 0 0], []⟩ 8 (by kernel_rfl) (by kernel_rfl) (by kernel_rfl) (by kernel_rfl)) ?_
  intro W base args ds gs before hval0 hW hcnd _
  have hval : ∀ (j : Nat) t v, Try.f10.params[j]? = some t → args[j]? = some v → Value.okWide Try.prog W .any base t v := hval0
  have hW' := hW
  obtain ⟨p, q, hA0, hV, rfl, hfz, hnd⟩ := hW
  have hA : DataW.TrodAll enc Try.prog W 0 (fun _ => true) true Try.f10.params.toList args.toList ds p := hA0
  rw [Try.params10] at hA hval
  obtain ⟨v0, vs0, d0, ds0, p0, q0, hargs, rfl, rfl, h0, r0⟩ := trodAll_cons hA
  obtain ⟨rfl, rfl, rfl⟩ := trodAll_nil r0
  obtain rfl : args = #[v0] := by cases args; simp_all
  obtain ⟨rfl, rfl⟩ := trodVars_none hV
  obtain ⟨a0, len0, cap0, rfl⟩ := okWide_slice Try.underlying23 (hval 0 23 v0 rfl rfl)
  have k0 := h0
  have lt0 : ∀ x ∈ p0, x.block < W.heap.size := by obtain ⟨m, hm⟩ := k0; exact DataW.trod_lt m _ _ _ hm
  obtain ⟨x0, e0, r0', l0⟩ := open_grid h0
  subst e0
  clear hA0 hval0
  refine (walk W a0 cap0 x0 r0' l0).mono fun e W' ⟨he, bel⟩ => ?_
  subst he
  exact ⟨_, rfl, _, _, _, [], _, [], hW', trodAll_mk1 (shut_bool Try.underlying4 _), (trodAll_cons_mk (Below.trod laidOut (by kernel_rfl) (of_decide_eq_true (by kernel_rfl)) k0 bel lt0) trodAll_mk0), rfl, bel.frame _, fun h => by cases h⟩

theorem over : Rows.fnExactMatTurnRow.holds Try.pinned (OpenSpec.ofChange Rows.fnExactMatTurnSpec) :=
  OpenClaim.holds_of_wide 10 Try.f10 rfl rfl rfl rfl rfl rfl rfl ⟨rfl, rfl, rfl, rfl, rfl⟩ rfl rfl rfl rfl rfl (by kernel_rfl) Try.func10 (by kernel_rfl)
    (of_decide_eq_true (by kernel_rfl)) (by unfold Func.isWrapper; first | (rw [if_pos (by decide +kernel)]; kernel_rfl) | (rw [if_neg (by decide +kernel)]; exact ⟨rfl, rfl⟩))
    (fun os started H enc _ => lifted os started H enc)

theorem proved : Rows.FnExactMatTurnSaid :=
  over
end Go.Proofs.Ythpfhbogpnhgmaa.fnExactMatTurn

