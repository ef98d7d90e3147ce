/-
  For every code the law FnSplit returns true: impl.ParcelSplit answers as the reference model does; the areas of both parts are that of the parcel, both are parcels, the points inside of both and those of their common line but its ends are the points inside of the parcel, and they have one side in common. No condition: every list of bytes is taken.
-/
import Derived.Test.YtegcjdcinebleaaPka
import Derived.Test.YtegcjdcinebleaaPkd
import Derived.Test.YtegcjdcinebleaaCode
namespace Go.Proofs.Ytegcjdcinebleaa.fnSplit
open Go.ChangeShapes Go.WideShapes Go.ChangeAt Go.RowKit Poly
set_option linter.unusedVariables false

set_option maxHeartbeats 16000000 in
set_option maxRecDepth 100000 in
theorem walk (len cap : Nat) (p : Option Addr) (w : World) (hl : len ≤ 1048576) (h : Hid (Code' w (.slice p len cap))) :
    Calls Try.prog 7 #[.slice p len cap] w fun e w' => e = .returned (.bool true) ∧ Below w.heap.size w w' := by
  have hl' : ¬ (1048576 : Int) < (len : Int) := by omega
  go_enter Try.func7, Try.ntmps7
  go_upto_region 4 with (go_at_call 37; (with_reducible refine (drawParcelSplit_is _ _ h).mono ?_); rintro e wd ⟨L, q, c, i, j, rfl, ⟨hc, h12, i0, i1, j0, j1⟩, hI, hb_wd⟩; have hs_wd := hb_wd.size)
  clear h
  have H := Lib.hid hI
  cases hs : splOk L i j
  · have c1 := fun w h => Lib.hid (iParcelSplit_no (p := q) (c := c) (w := w) (L := L) h hc (by omega) i j hs)
    have c2 := fun w h => Lib.hid (sSplit_no (p := q) (c := c) (w := w) (L := L) h hc (by omega) i j hs)
    clear hI hs
    go_wp2_with (first | (go_at_call 38; (with_reducible refine ((c1 _ ?_).out).mono ?_); (focus ((exact H.out); done)); rintro e wi ⟨rfl, hb_wi⟩; have hs_wi := hb_wi.size; (try simp at hs_wi)) | (go_at_call 39; (with_reducible refine ((c2 _ ?_).out).mono ?_); (focus ((exact H.out.below hb_wi); done)); rintro e ws ⟨g1, d1, g2, d2, rfl, -, hb_ws⟩; have hs_ws := hb_ws.size; (try simp at hs_ws)) | (go_at_call 40; (with_reducible refine (samePts_nil _ _ _ _ _).mono ?_); rintro e we ⟨rfl, hb_we⟩; have hs_we := hb_we.size; (try simp at hs_we)))
    go_ret
    exact ⟨rfl, (by repeat (first | assumption | exact Below.refl _ _ | (refine below_chain ?_ (by assumption) (by first | omega | (simp <;> omega) | simp)) | (refine Below.alloc ?_ (by first | omega | (simp <;> omega) | simp) _) | (apply below_drewN) | (apply below_drew) | (refine Below.setCell ?_ (by first | omega | (simp <;> omega) | simp) _)))⟩
  · obtain ⟨I', J', rfl, rfl, hij, hj, hv, hA, hB⟩ := splOk_nat hs
    have hok := parV_ok hv
    obtain ⟨x, hx⟩ : ∃ x, areaL (splA L I' J') = x := ⟨_, rfl⟩
    obtain ⟨y, hy⟩ : ∃ y, areaL (splB L I' J') = y := ⟨_, rfl⟩
    obtain ⟨z, hz⟩ : ∃ z, areaL L = z := ⟨_, rfl⟩
    obtain ⟨a, ha⟩ : ∃ a, insideL (splA L I' J') = a := ⟨_, rfl⟩
    obtain ⟨b, hb⟩ : ∃ b, insideL (splB L I' J') = b := ⟨_, rfl⟩
    obtain ⟨t, ht⟩ : ∃ t, insideL L = t := ⟨_, rfl⟩
    obtain ⟨g, hg⟩ : ∃ g, gapP (cy L I') (cy L J') = g := ⟨_, rfl⟩
    have hsum := area_split (L := L) hij hj
    have hins := inside_split (L := L) hij hj hv hA hB
    rw [hx, hy, hz] at hsum
    rw [ha, hb, ht, hg] at hins
    have hxb := area_bd (parV_ok hA)
    have hyb := area_bd (parV_ok hB)
    have hgb := gapP_bd (okP_at hok I') (okP_at hok J')
    have hab := inside_eq hA
    have hbb := inside_eq hB
    have hea := edge_bd (parV_ok hA)
    have heb := edge_bd (parV_ok hB)
    rw [hx] at hxb hab
    rw [hy] at hyb hbb
    rw [hg] at hgb
    rw [ha] at hab
    rw [hb] at hbb
    have haB : -3000000000 ≤ a ∧ a ≤ 3000000000 := by omega
    have hbB : -3000000000 ≤ b ∧ b ≤ 3000000000 := by omega
    clear hab hbb hea heb
    have hlA := splA_len (L := L) hij hj
    have hlB := splB_len (L := L) hij hj
    have hm1 : J' - I' + 1 ≤ 12 := by omega
    have hm2 : L.length - J' + I' + 1 ≤ 12 := by omega
    have c1 := fun w h => Lib.hid (iParcelSplit_yes (p := q) (c := c) (w := w) (L := L) h hc hv I' J' hij hj hA hB)
    have c2 := fun w h => Lib.hid (sSplit_yes (p := q) (c := c) (w := w) (L := L) h hv hc I' J' hij hj hA hB)
    have hcom := common_split (parV_poly hv) hij hj
    obtain ⟨m1, hm1e⟩ : ∃ m, J' - I' + 1 = m := ⟨_, rfl⟩
    obtain ⟨m2, hm2e⟩ : ∃ m, L.length - J' + I' + 1 = m := ⟨_, rfl⟩
    rw [hm1e] at c1 c2 hlA hm1
    rw [hm2e] at c1 c2 hlB hm2
    have cz := fun w h => Lib.hid (iArea_l (p := q) (c := c) (w := w) (L := L) h rfl hc hok hz)
    have ct := fun w h => Lib.hid (iInside_l (p := q) (c := c) (w := w) (L := L) h rfl hc (parV_poly hv) ht)
    have cg := fun w => Lib.hid (iGaps_l (okP_at hok I') (okP_at hok J') hg w)
    generalize splA L I' J' = A at *
    generalize splB L I' J' = B at *
    have cx := fun g cp w h hcp => Lib.hid (iArea_l (p := some ⟨g, 0, none⟩) (c := cp) (n := m1) (w := w) (L := A) h hlA hcp (parV_ok hA) hx)
    have cy' := fun g cp w h hcp => Lib.hid (iArea_l (p := some ⟨g, 0, none⟩) (c := cp) (n := m2) (w := w) (L := B) h hlB hcp (parV_ok hB) hy)
    have cp1 := fun g cp w h hcp => Lib.hid (iParcel_l (p := some ⟨g, 0, none⟩) (c := cp) (n := m1) (w := w) (L := A) h hlA hcp (by omega) hA)
    have cp2 := fun g cp w h hcp => Lib.hid (iParcel_l (p := some ⟨g, 0, none⟩) (c := cp) (n := m2) (w := w) (L := B) h hlB hcp (by omega) hB)
    have ca := fun g cp w h hcp => Lib.hid (iInside_l (p := some ⟨g, 0, none⟩) (c := cp) (n := m1) (w := w) (L := A) h hlA hcp (parV_poly hA) ha)
    have cb := fun g cp w h hcp => Lib.hid (iInside_l (p := some ⟨g, 0, none⟩) (c := cp) (n := m2) (w := w) (L := B) h hlB hcp (parV_poly hB) hb)
    have cc := fun g1 k1 g2 k2 w h h' hc1 hc2 => Lib.hid (iCommon_l (p := some ⟨g1, 0, none⟩) (q := some ⟨g2, 0, none⟩) (c := k1) (d := k2) (n := m1) (m := m2) (w := w) (L := A) (M := B) h h' hlA hlB hc1 hc2 hA hB hcom)
    have HL := Lib.hid (And.intro hlA hlB)
    obtain ⟨Bq, o, rfl, hBq, -, -⟩ := hI.pt (i := 0) (by omega)
    have hIl : (I' : Int) < (L.length : Int) := by omega
    have hJl : (J' : Int) < (L.length : Int) := by omega
    have hIL : I' < L.length := by omega
    clear hI hs hv hA hB hok hx hy hz ha hb ht hg hlA hlB hcom hm1e hm2e
    go_upto_region 6 with (first | ((go_at_call 38; (with_reducible refine ((c1 _ ?_).out).mono ?_); (focus ((exact H.out); done)); rintro e wi ⟨g1, k1, g2, k2, rfl, ⟨hg1, o1⟩, ⟨hg2, o2⟩, -, hb_wi⟩; have hs_wi := hb_wi.size; (try simp at hs_wi)); have hcap1 := own_le o1; have hcap2 := own_le o2; have O1 := Lib.hid o1; have O2 := Lib.hid o2; clear o1 o2) | ((go_at_call 39; (with_reducible refine ((c2 _ ?_).out).mono ?_); (focus ((exact H.out.below hb_wi); done)); rintro e ws ⟨g3, k3, g4, k4, rfl, -, ⟨o3, o4⟩, hb_ws⟩; have hs_ws := hb_ws.size; (try simp at hs_ws)); have O3 := Lib.hid o3; have O4 := Lib.hid o4; clear o3 o4))
    go_upto_region 11 with (first | (go_at_call 40; (with_reducible refine (samePts _ _ m1 _ _ A _ ?_ ?_ HL.out.1 (by omega)).mono ?_); (focus ((exact (O1.out.below (by repeat (first | assumption | exact Below.refl _ _ | (refine below_chain ?_ (by assumption) (by first | omega | (simp <;> omega) | simp)) | (refine Below.alloc ?_ (by first | omega | (simp <;> omega) | simp) _) | (apply below_drewN) | (apply below_drew) | (refine Below.setCell ?_ (by first | omega | (simp <;> omega) | simp) _)))).pts); done)); (focus ((exact (O3.out.below (by repeat (first | assumption | exact Below.refl _ _ | (refine below_chain ?_ (by assumption) (by first | omega | (simp <;> omega) | simp)) | (refine Below.alloc ?_ (by first | omega | (simp <;> omega) | simp) _) | (apply below_drewN) | (apply below_drew) | (refine Below.setCell ?_ (by first | omega | (simp <;> omega) | simp) _)))).pts); done)); rintro e we ⟨rfl, hb_we⟩; have hs_we := hb_we.size; (try simp at hs_we)) | (go_at_call 40; (with_reducible refine (samePts _ _ m2 _ _ B _ ?_ ?_ HL.out.2 (by omega)).mono ?_); (focus ((exact (O2.out.below (by repeat (first | assumption | exact Below.refl _ _ | (refine below_chain ?_ (by assumption) (by first | omega | (simp <;> omega) | simp)) | (refine Below.alloc ?_ (by first | omega | (simp <;> omega) | simp) _) | (apply below_drewN) | (apply below_drew) | (refine Below.setCell ?_ (by first | omega | (simp <;> omega) | simp) _)))).pts); done)); (focus ((exact (O4.out.below (by repeat (first | assumption | exact Below.refl _ _ | (refine below_chain ?_ (by assumption) (by first | omega | (simp <;> omega) | simp)) | (refine Below.alloc ?_ (by first | omega | (simp <;> omega) | simp) _) | (apply below_drewN) | (apply below_drew) | (refine Below.setCell ?_ (by first | omega | (simp <;> omega) | simp) _)))).pts); done)); rintro e wf ⟨rfl, hb_wf⟩; have hs_wf := hb_wf.size; (try simp at hs_wf)) | (go_at_call 22; (with_reducible refine ((cx _ _ _ ?_ hcap1).out).mono ?_); (focus ((exact (O1.out.below (by repeat (first | assumption | exact Below.refl _ _ | (refine below_chain ?_ (by assumption) (by first | omega | (simp <;> omega) | simp)) | (refine Below.alloc ?_ (by first | omega | (simp <;> omega) | simp) _) | (apply below_drewN) | (apply below_drew) | (refine Below.setCell ?_ (by first | omega | (simp <;> omega) | simp) _)))).pts); done)); rintro e wa ⟨rfl, hb_wa⟩; have hs_wa := hb_wa.size; (try simp at hs_wa)) | (go_at_call 22; (with_reducible refine ((cy' _ _ _ ?_ hcap2).out).mono ?_); (focus ((exact (O2.out.below (by repeat (first | assumption | exact Below.refl _ _ | (refine below_chain ?_ (by assumption) (by first | omega | (simp <;> omega) | simp)) | (refine Below.alloc ?_ (by first | omega | (simp <;> omega) | simp) _) | (apply below_drewN) | (apply below_drew) | (refine Below.setCell ?_ (by first | omega | (simp <;> omega) | simp) _)))).pts); done)); rintro e wb ⟨rfl, hb_wb⟩; have hs_wb := hb_wb.size; (try simp at hs_wb)) | (go_at_call 22; (with_reducible refine ((cz _ ?_).out).mono ?_); (focus ((exact H.out.below (by repeat (first | assumption | exact Below.refl _ _ | (refine below_chain ?_ (by assumption) (by first | omega | (simp <;> omega) | simp)) | (refine Below.alloc ?_ (by first | omega | (simp <;> omega) | simp) _) | (apply below_drewN) | (apply below_drew) | (refine Below.setCell ?_ (by first | omega | (simp <;> omega) | simp) _)))); done)); rintro e wz ⟨rfl, hb_wz⟩; have hs_wz := hb_wz.size; (try simp at hs_wz)))
    have hIZ : Below wi.heap.size wi wz := (by repeat (first | assumption | exact Below.refl _ _ | (refine below_chain ?_ (by assumption) (by first | omega | (simp <;> omega) | simp)) | (refine Below.alloc ?_ (by first | omega | (simp <;> omega) | simp) _) | (apply below_drewN) | (apply below_drew) | (refine Below.setCell ?_ (by first | omega | (simp <;> omega) | simp) _)))
    have hDZ : Below wd.heap.size wd wz := hb_wi.trans (hIZ.mono hs_wi)
    have HZ := Lib.hid (H.out.below hDZ)
    obtain ⟨B1, o1, e1, hB1, x0, x1⟩ := HZ.out.pt (i := I') hIL
    simp at e1
    obtain ⟨rfl, rfl⟩ := e1
    obtain ⟨B2, o2, e2, hB2, y0, y1⟩ := HZ.out.pt (i := J') (by omega)
    simp at e2
    obtain ⟨rfl, rfl⟩ := e2
    have O1Z := Lib.hid (O1.out.below hIZ)
    have O2Z := Lib.hid (O2.out.below hIZ)
    have HBZ := Lib.hid (hb_wd.trans (hDZ.mono hs_wd))
    have hwz := HBZ.out.size
    have hDs := hDZ.size
    clear O1 O2 O3 O4 c1 c2 cx cy' cz hb_wi hb_ws hb_we hb_wf hb_wa hb_wb hb_wz hs_wi hs_ws hs_we hs_wf hs_wa hs_wb hs_wz hIZ hDZ
    (refine wp_region_grows (by kernel_rfl) (by kernel_rfl) ?_; intro W_wg hWc_wg hWs_wg hWe_wg; (repeat (go_big_quiet_step ((go_at_call 41; with_reducible exact Ext.call ((cg _).out))))); with_reducible refine wpQuiet_nil ?_; clear hWe_wg hWs_wg hWc_wg W_wg; intro wg hb_wg; obtain ⟨hc_wg, hf_wg⟩ := bcell hb_wg; (try simp only [World.size_drew, World.cell?_drew, World.frozen?_drew, World.heap_drewN, World.cell?_drewN, World.frozen?_drewN] at hc_wg hf_wg); have hs_wg := hb_wg.size; (try simp at hs_wg))
    have HG := Lib.hid hb_wg
    have hsg := hb_wg.size
    clear hb_wg hc_wg hf_wg x0 x1 y0 y1 cg
    go_wp2_with (first | (go_at_call 34; (with_reducible refine ((cp1 _ _ _ ?_ hcap1).out).mono ?_); (focus ((exact (O1Z.out.below HG.out).pts); done)); rintro e w1 ⟨rfl, hb_w1⟩; have hs_w1 := hb_w1.size; (try simp at hs_w1)) | (go_at_call 34; (with_reducible refine ((cp2 _ _ _ ?_ hcap2).out).mono ?_); (focus ((exact ((O2Z.out.below HG.out).below (by repeat (first | assumption | exact Below.refl _ _ | (refine below_chain ?_ (by assumption) (by first | omega | (simp <;> omega) | simp)) | (refine Below.alloc ?_ (by first | omega | (simp <;> omega) | simp) _) | (apply below_drewN) | (apply below_drew) | (refine Below.setCell ?_ (by first | omega | (simp <;> omega) | simp) _)))).pts); done)); rintro e w2 ⟨rfl, hb_w2⟩; have hs_w2 := hb_w2.size; (try simp at hs_w2)) | (go_at_call 26; (with_reducible refine ((ca _ _ _ ?_ hcap1).out).mono ?_); (focus ((exact ((O1Z.out.below HG.out).below (by repeat (first | assumption | exact Below.refl _ _ | (refine below_chain ?_ (by assumption) (by first | omega | (simp <;> omega) | simp)) | (refine Below.alloc ?_ (by first | omega | (simp <;> omega) | simp) _) | (apply below_drewN) | (apply below_drew) | (refine Below.setCell ?_ (by first | omega | (simp <;> omega) | simp) _)))).pts); done)); rintro e w3 ⟨rfl, hb_w3⟩; have hs_w3 := hb_w3.size; (try simp at hs_w3)) | (go_at_call 26; (with_reducible refine ((cb _ _ _ ?_ hcap2).out).mono ?_); (focus ((exact ((O2Z.out.below HG.out).below (by repeat (first | assumption | exact Below.refl _ _ | (refine below_chain ?_ (by assumption) (by first | omega | (simp <;> omega) | simp)) | (refine Below.alloc ?_ (by first | omega | (simp <;> omega) | simp) _) | (apply below_drewN) | (apply below_drew) | (refine Below.setCell ?_ (by first | omega | (simp <;> omega) | simp) _)))).pts); done)); rintro e w4 ⟨rfl, hb_w4⟩; have hs_w4 := hb_w4.size; (try simp at hs_w4)) | (go_at_call 26; (with_reducible refine ((ct _ ?_).out).mono ?_); (focus ((exact (HZ.out.below HG.out).below (by repeat (first | assumption | exact Below.refl _ _ | (refine below_chain ?_ (by assumption) (by first | omega | (simp <;> omega) | simp)) | (refine Below.alloc ?_ (by first | omega | (simp <;> omega) | simp) _) | (apply below_drewN) | (apply below_drew) | (refine Below.setCell ?_ (by first | omega | (simp <;> omega) | simp) _)))); done)); rintro e w5 ⟨rfl, hb_w5⟩; have hs_w5 := hb_w5.size; (try simp at hs_w5)) | (go_at_call 42; (with_reducible refine ((cc _ _ _ _ _ ?_ ?_ hcap1 hcap2).out).mono ?_); (focus ((exact ((O1Z.out.below HG.out).below (by repeat (first | assumption | exact Below.refl _ _ | (refine below_chain ?_ (by assumption) (by first | omega | (simp <;> omega) | simp)) | (refine Below.alloc ?_ (by first | omega | (simp <;> omega) | simp) _) | (apply below_drewN) | (apply below_drew) | (refine Below.setCell ?_ (by first | omega | (simp <;> omega) | simp) _)))).pts); done)); (focus ((exact ((O2Z.out.below HG.out).below (by repeat (first | assumption | exact Below.refl _ _ | (refine below_chain ?_ (by assumption) (by first | omega | (simp <;> omega) | simp)) | (refine Below.alloc ?_ (by first | omega | (simp <;> omega) | simp) _) | (apply below_drewN) | (apply below_drew) | (refine Below.setCell ?_ (by first | omega | (simp <;> omega) | simp) _)))).pts); done)); rintro e w6 ⟨rfl, hb_w6⟩; have hs_w6 := hb_w6.size; (try simp at hs_w6)))
    go_ret
    exact ⟨rfl, HBZ.out.trans ((HG.out.trans ((show Below wg.heap.size wg w6 from (by repeat (first | assumption | exact Below.refl _ _ | (refine below_chain ?_ (by assumption) (by first | omega | (simp <;> omega) | simp)) | (refine Below.alloc ?_ (by first | omega | (simp <;> omega) | simp) _) | (apply below_drewN) | (apply below_drew) | (refine Below.setCell ?_ (by first | omega | (simp <;> omega) | simp) _)))).mono hsg)).mono hwz)⟩

set_option maxRecDepth 100000 in
theorem walk_long (len cap : Nat) (p : Option Addr) (w : World) (hl : 1048576 < len) :
    Calls Try.prog 7 #[.slice p len cap] w fun e w' => e = .returned (.bool true) ∧ Below w.heap.size w w' := by
  have hl' : (1048576 : Int) < (len : Int) := by omega
  go_enter Try.func7, Try.ntmps7
  go_wp2
  go_ret
  exact ⟨rfl, Below.refl _ _⟩

set_option maxRecDepth 100000 in
theorem lifted (os : Os) (started : os.Started) (H : Type) (enc : TypeId × Value → H) :
    ReturnsInHanded {} Try.checked os 7 .any (Rows.fnSplitSpec.pre6 enc Try.prog Try.f7 Rows.fnSplitRow.domain false) (Rows.fnSplitSpec.post enc Try.prog Try.f7 false true false false) := by
  refine returnsInHanded_of_change (C := Try.checked) own started (by kernel_rfl) Try.func7
    (ChangeSpec.witness6 (enc := enc) (C := Try.checked) false ⟨#[], #[.slice none 0 0], []⟩ 8 (by kernel_rfl) (by kernel_rfl) (by kernel_rfl) (by kernel_rfl)) ?_
  intro W base args ds gs before hval0 hW hcnd _
  have hval : ∀ (j : Nat) t v, Try.f7.params[j]? = some t → args[j]? = some v → Value.okWide Try.prog W .any base t v := hval0
  have hW' := hW
  obtain ⟨p, q, hA0, hV, rfl, hfz, hnd⟩ := hW
  have hA : DataW.TrodAll enc Try.prog W 0 (fun _ => true) true Try.f7.params.toList args.toList ds p := hA0
  rw [Try.params7] at hA hval
  obtain ⟨v0, vs0, d0, ds0, p0, q0, hargs, rfl, rfl, h0, r0⟩ := trodAll_cons hA
  obtain ⟨rfl, rfl, rfl⟩ := trodAll_nil r0
  obtain rfl : args = #[v0] := by cases args; simp_all
  obtain ⟨rfl, rfl⟩ := trodVars_none hV
  obtain ⟨a0, len0, cap0, rfl⟩ := okWide_slice Try.underlying22 (hval 0 22 v0 rfl rfl)
  have k0 := h0
  have lt0 : ∀ x ∈ p0, x.block < W.heap.size := by obtain ⟨m, hm⟩ := k0; exact DataW.trod_lt m _ _ _ hm
  obtain ⟨z0, w0⟩ : ∃ zs, IsRow .u8 W a0 len0 cap0 zs := by
    obtain ⟨fuel, hf⟩ := h0
    rcases open_ints Try.underlying22 Try.underlying5 (by kernel_rfl) hf with ⟨hcs, _⟩ | ⟨x, l, c, zs, hcs, _, hl, hm, hz, _, hcell, hwz⟩
    · simp [Value.cells] at hcs
      obtain ⟨rfl, rfl, rfl⟩ := hcs
      exact ⟨[], .inl ⟨rfl, rfl, rfl, rfl⟩⟩
    · simp [Value.cells] at hcs
      obtain ⟨rfl, rfl, rfl⟩ := hcs
      exact ⟨zs, .inr ⟨_, rfl, hl, hm, by simpa using hz, hcell, hwz⟩⟩
  clear hA0 hval0
  have hw : Calls Try.prog 7 #[.slice a0 len0 cap0] W fun e w' => e = .returned (.bool true) ∧ Below W.heap.size W w' := by
    by_cases hl : len0 ≤ 1048576
    · exact walk len0 cap0 a0 W hl (Lib.hid (code_of_row w0 hl))
    · exact walk_long len0 cap0 a0 W (by omega)
  refine hw.mono fun e W' ⟨he, bel⟩ => ?_
  subst he
  exact ⟨_, rfl, _, _, _, [], _, [], hW', trodAll_mk1 (shut_bool Try.underlying4 _), (trodAll_cons_mk (Below.trod laidOut (by kernel_rfl) (of_decide_eq_true (by kernel_rfl)) k0 bel lt0) trodAll_mk0), rfl, bel.frame _, fun h => by cases h⟩

theorem over : Rows.fnSplitRow.holds Try.pinned (OpenSpec.ofChange Rows.fnSplitSpec) :=
  OpenClaim.holds_of_wide 7 Try.f7 rfl rfl rfl rfl rfl rfl rfl ⟨rfl, rfl, rfl, rfl, rfl⟩ rfl rfl rfl rfl rfl (by kernel_rfl) Try.func7 (by unfold joinedFacts; rw [seat_enter, seat_lift, seat_make]; kernel_rfl)
    (of_decide_eq_true (by kernel_rfl)) (by unfold Func.isWrapper; first | (rw [if_pos (by decide +kernel)]; kernel_rfl) | (rw [if_neg (by decide +kernel)]; exact ⟨rfl, rfl⟩))
    (fun os started H enc _ => lifted os started H enc)

theorem proved : Rows.FnSplitSaid := over
end Go.Proofs.Ytegcjdcinebleaa.fnSplit

