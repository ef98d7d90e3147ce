/-
  For every two codes the law FnSplitPlace returns true: impl.ParcelSplit answers as the reference model does; a point inside of one part lies inside of the parcel and outside of the other part, a point outside of the parcel lies outside of both, and a point inside of it not outside of both. No condition: every two lists of bytes are taken.
-/
import Derived.Test.YtegcjdcinebleaaPka
import Derived.Test.YtegcjdcinebleaaPkd
import Derived.Test.YtegcjdcinebleaaYjg
import Derived.Test.YtegcjdcinebleaaCode
namespace Go.Proofs.Ytegcjdcinebleaa.fnSplitPlace
open Go.ChangeShapes Go.WideShapes Go.ChangeAt Go.RowKit Poly
set_option linter.unusedVariables false

theorem place_at {w : World} {p : Option Addr} {c n : Nat} {L : List P2} {a b R : Int} (h : Ints w p (fl L)) (hn : L.length = n) (hc : n ≤ c) (hv : polyV L = true) (hz : pvP (a, b) = true) (hR : placeL L (a, b) = R) :
    Calls Try.prog 29 #[.slice p n c, .agg #[.int .i64 a, .int .i64 b]] w fun e w' => e = .returned (.tuple #[.int .i64 R, .bool true]) ∧ Below w.heap.size w w' := by
  subst hn hR
  exact iPolyPlace_yes h hc (a, b) hv hz
set_option maxHeartbeats 16000000 in
set_option maxRecDepth 100000 in
theorem walk (len cap : Nat) (p : Option Addr) (len2 cap2 : Nat) (p2 : Option Addr) (w : World) (hl : len ≤ 1048576) (hl2 : len2 ≤ 1048576) (h : Hid (Code' w (.slice p len cap))) (h2 : Hid (Code' w (.slice p2 len2 cap2))) :
    Calls Try.prog 8 #[.slice p len cap, .slice p2 len2 cap2] w fun e w' => e = .returned (.bool true) ∧ Below w.heap.size w w' := by
  have hl' : ¬ (1048576 : Int) < (len : Int) := by omega
  have hl2' : ¬ (1048576 : Int) < (len2 : Int) := by omega
  clear h2
  go_enter Try.func8, Try.ntmps8
  go_upto_region 4 with (go_at_call 37; (with_reducible refine (drawParcelSplit_is _ _ h).mono ?_); rintro e wd ⟨L, q, c, i, j, rfl, ⟨hc, h12, i0, i1, j0, j1⟩, hI, hb_wd⟩; have hs_wd := hb_wd.size)
  clear h
  have H := Lib.hid hI
  cases hs : splOk L i j
  · have c1 := fun w h => Lib.hid (iParcelSplit_no (p := q) (c := c) (w := w) (L := L) h hc (by omega) i j hs)
    have c2 := fun w h => Lib.hid (sSplit_no (p := q) (c := c) (w := w) (L := L) h hc (by omega) i j hs)
    clear hI hs
    go_wp2_with (first | (go_at_call 38; (with_reducible refine ((c1 _ ?_).out).mono ?_); (focus ((exact H.out); done)); rintro e wi ⟨rfl, hb_wi⟩; have hs_wi := hb_wi.size; (try simp at hs_wi)) | (go_at_call 39; (with_reducible refine ((c2 _ ?_).out).mono ?_); (focus ((exact H.out.below hb_wi); done)); rintro e ws ⟨g1, d1, g2, d2, rfl, -, hb_ws⟩; have hs_ws := hb_ws.size; (try simp at hs_ws)) | (go_at_call 40; (with_reducible refine (samePts_nil _ _ _ _ _).mono ?_); rintro e we ⟨rfl, hb_we⟩; have hs_we := hb_we.size; (try simp at hs_we)))
    go_ret
    exact ⟨rfl, (by repeat (first | assumption | exact Below.refl _ _ | (refine below_chain ?_ (by assumption) (by first | omega | (simp <;> omega) | simp)) | (refine Below.alloc ?_ (by first | omega | (simp <;> omega) | simp) _) | (apply below_drewN) | (apply below_drew) | (refine Below.setCell ?_ (by first | omega | (simp <;> omega) | simp) _)))⟩
  · obtain ⟨I', J', rfl, rfl, hij, hj, hv, hA, hB⟩ := splOk_nat hs
    obtain ⟨a, ha⟩ : ∃ a : Int, (len2 : Int) % 13 - 6 = a := ⟨_, rfl⟩
    obtain ⟨b, hb⟩ : ∃ b : Int, (len2 : Int) / 13 % 13 - 6 = b := ⟨_, rfl⟩
    have hab : -6 ≤ a ∧ a ≤ 6 ∧ -6 ≤ b ∧ b ≤ 6 := by omega
    have hpv : pvP (a, b) = true := by unfold pvP Pt.pv; simp only [decide_eq_true_eq]; omega
    obtain ⟨x, hx⟩ : ∃ x, placeL (splA L I' J') (a, b) = x := ⟨_, rfl⟩
    obtain ⟨y, hy⟩ : ∃ y, placeL (splB L I' J') (a, b) = y := ⟨_, rfl⟩
    obtain ⟨z, hz⟩ : ∃ z, placeL L (a, b) = z := ⟨_, rfl⟩
    have hlaw := Lib.hid (split_place hij hj hv hA hB (a, b) hx hy hz)
    have hx3 : x = 0 ∨ x = 1 ∨ x = -1 := by rw [← hx]; rcases place_cases (lw_of (parV_poly hA) (parV_area hA)) (a, b) with ⟨-, q⟩ | ⟨-, -, q⟩ | ⟨-, -, q⟩ <;> omega
    have hy3 : y = 0 ∨ y = 1 ∨ y = -1 := by rw [← hy]; rcases place_cases (lw_of (parV_poly hB) (parV_area hB)) (a, b) with ⟨-, q⟩ | ⟨-, -, q⟩ | ⟨-, -, q⟩ <;> omega
    have hz3 : z = 0 ∨ z = 1 ∨ z = -1 := by rw [← hz]; rcases place_cases (lw_of (parV_poly hv) (parV_area hv)) (a, b) with ⟨-, q⟩ | ⟨-, -, q⟩ | ⟨-, -, q⟩ <;> omega
    have H3 := Lib.hid (And.intro hx3 (And.intro hy3 hz3))
    have HAB := Lib.hid (And.intro ha hb)
    have hlA := splA_len (L := L) hij hj
    have hlB := splB_len (L := L) hij hj
    have hm1 : J' - I' + 1 ≤ 12 := by omega
    have hm2 : L.length - J' + I' + 1 ≤ 12 := by omega
    have c1 := fun w h => Lib.hid (iParcelSplit_yes (p := q) (c := c) (w := w) (L := L) h hc hv I' J' hij hj hA hB)
    have c2 := fun w h => Lib.hid (sSplit_yes (p := q) (c := c) (w := w) (L := L) h hv hc I' J' hij hj hA hB)
    obtain ⟨m1, hm1e⟩ : ∃ m, J' - I' + 1 = m := ⟨_, rfl⟩
    obtain ⟨m2, hm2e⟩ : ∃ m, L.length - J' + I' + 1 = m := ⟨_, rfl⟩
    rw [hm1e] at c1 c2 hlA hm1
    rw [hm2e] at c1 c2 hlB hm2
    have cz := fun w h => Lib.hid (place_at (p := q) (c := c) (w := w) (L := L) h rfl hc (parV_poly hv) hpv hz)
    generalize splA L I' J' = A at *
    generalize splB L I' J' = B at *
    have cx := fun g cp w h hcp => Lib.hid (place_at (p := some ⟨g, 0, none⟩) (c := cp) (n := m1) (w := w) (L := A) h hlA hcp (parV_poly hA) hpv hx)
    have cy' := fun g cp w h hcp => Lib.hid (place_at (p := some ⟨g, 0, none⟩) (c := cp) (n := m2) (w := w) (L := B) h hlB hcp (parV_poly hB) hpv hy)
    have HL := Lib.hid (And.intro hlA hlB)
    clear hI hs hv hA hB hx hy hz hlA hlB hm1e hm2e ha hb hpv hx3 hy3 hz3
    go_upto_region 6 with (first | ((go_at_call 38; (with_reducible refine ((c1 _ ?_).out).mono ?_); (focus ((exact H.out); done)); rintro e wi ⟨g1, k1, g2, k2, rfl, ⟨hg1, o1⟩, ⟨hg2, o2⟩, -, hb_wi⟩; have hs_wi := hb_wi.size; (try simp at hs_wi)); have hcap1 := own_le o1; have hcap2 := own_le o2; have O1 := Lib.hid o1; have O2 := Lib.hid o2; clear o1 o2) | ((go_at_call 39; (with_reducible refine ((c2 _ ?_).out).mono ?_); (focus ((exact H.out.below hb_wi); done)); rintro e ws ⟨g3, k3, g4, k4, rfl, -, ⟨o3, o4⟩, hb_ws⟩; have hs_ws := hb_ws.size; (try simp at hs_ws)); have O3 := Lib.hid o3; have O4 := Lib.hid o4; clear o3 o4))
    go_upto_region 9 with (first | (go_at_call 40; (with_reducible refine (samePts _ _ m1 _ _ A _ ?_ ?_ HL.out.1 (by omega)).mono ?_); (focus ((exact (O1.out.below (by repeat (first | assumption | exact Below.refl _ _ | (refine below_chain ?_ (by assumption) (by first | omega | (simp <;> omega) | simp)) | (refine Below.alloc ?_ (by first | omega | (simp <;> omega) | simp) _) | (apply below_drewN) | (apply below_drew) | (refine Below.setCell ?_ (by first | omega | (simp <;> omega) | simp) _)))).pts); done)); (focus ((exact (O3.out.below (by repeat (first | assumption | exact Below.refl _ _ | (refine below_chain ?_ (by assumption) (by first | omega | (simp <;> omega) | simp)) | (refine Below.alloc ?_ (by first | omega | (simp <;> omega) | simp) _) | (apply below_drewN) | (apply below_drew) | (refine Below.setCell ?_ (by first | omega | (simp <;> omega) | simp) _)))).pts); done)); rintro e we ⟨rfl, hb_we⟩; have hs_we := hb_we.size; (try simp at hs_we)) | (go_at_call 40; (with_reducible refine (samePts _ _ m2 _ _ B _ ?_ ?_ HL.out.2 (by omega)).mono ?_); (focus ((exact (O2.out.below (by repeat (first | assumption | exact Below.refl _ _ | (refine below_chain ?_ (by assumption) (by first | omega | (simp <;> omega) | simp)) | (refine Below.alloc ?_ (by first | omega | (simp <;> omega) | simp) _) | (apply below_drewN) | (apply below_drew) | (refine Below.setCell ?_ (by first | omega | (simp <;> omega) | simp) _)))).pts); done)); (focus ((exact (O4.out.below (by repeat (first | assumption | exact Below.refl _ _ | (refine below_chain ?_ (by assumption) (by first | omega | (simp <;> omega) | simp)) | (refine Below.alloc ?_ (by first | omega | (simp <;> omega) | simp) _) | (apply below_drewN) | (apply below_drew) | (refine Below.setCell ?_ (by first | omega | (simp <;> omega) | simp) _)))).pts); done)); rintro e wf ⟨rfl, hb_wf⟩; have hs_wf := hb_wf.size; (try simp at hs_wf)))
    rw [HAB.out.1, HAB.out.2]
    obtain ⟨V, hV⟩ : ∃ V, V = wf.alloc (.cells #[.int .i64 a, .int .i64 b] 31) := ⟨_, rfl⟩
    obtain ⟨D, hD⟩ : ∃ D, D = wf.heap.size := ⟨_, rfl⟩
    have x0 : V.cell? ⟨D, 0, none⟩ = some (.int .i64 a) := by rw [hV, hD]; simp [go_sem]
    have x1 : V.cell? ⟨D, 1, none⟩ = some (.int .i64 b) := by rw [hV, hD]; simp [go_sem]
    have hDV : D < V.heap.size := World.block_lt_of_cell? V _ x0
    have hIV : Below wi.heap.size wi V := by rw [hV]; exact (by repeat (first | assumption | exact Below.refl _ _ | (refine below_chain ?_ (by assumption) (by first | omega | (simp <;> omega) | simp)) | (refine Below.alloc ?_ (by first | omega | (simp <;> omega) | simp) _) | (apply below_drewN) | (apply below_drew) | (refine Below.setCell ?_ (by first | omega | (simp <;> omega) | simp) _)))
    have hDV2 : Below wd.heap.size wd V := hb_wi.trans (hIV.mono hs_wi)
    have HV := Lib.hid (H.out.below hDV2)
    have O1V := Lib.hid (O1.out.below hIV)
    have O2V := Lib.hid (O2.out.below hIV)
    have HBV := Lib.hid (hb_wd.trans (hDV2.mono hs_wd))
    have hsV := HBV.out.size
    rw [← hV, ← hD]
    clear hV hD hIV hDV2 O1 O2 O3 O4 H c1 c2 hb_wi hb_ws hb_we hb_wf hs_wi hs_ws hs_we hs_wf hg1 hg2 HAB HL
    go_upto_region 12 with (first
      | ((go_at_call 29; (with_reducible refine ((cx _ _ _ ?_ hcap1).out).mono ?_); (focus ((exact O1V.out.pts); done)); rintro e w1 ⟨rfl, hb_w1⟩; have hs_w1 := hb_w1.size; (try simp at hs_w1)); have y0 := (hb_w1.cell (p := ⟨D, 0, none⟩) hDV).trans x0; have y1 := (hb_w1.cell (p := ⟨D, 1, none⟩) hDV).trans x1; have hD1 : D < w1.heap.size := by omega)
      | ((go_at_call 29; (with_reducible refine ((cy' _ _ _ ?_ hcap2).out).mono ?_); (focus ((exact (O2V.out.below hb_w1).pts); done)); rintro e w2 ⟨rfl, hb_w2⟩; have hs_w2 := hb_w2.size; (try simp at hs_w2)); have z0 := (hb_w2.cell (p := ⟨D, 0, none⟩) hD1).trans y0; have z1 := (hb_w2.cell (p := ⟨D, 1, none⟩) hD1).trans y1; have hD2 : D < w2.heap.size := by omega)
      | (go_at_call 29; (with_reducible refine ((cz _ ?_).out).mono ?_); (focus ((exact (HV.out.below hb_w1).below hb_w2); done)); rintro e w3 ⟨rfl, hb_w3⟩; have hs_w3 := hb_w3.size; (try simp at hs_w3)))
    have HF := Lib.hid (HBV.out.trans ((show Below V.heap.size V w3 from (by repeat (first | assumption | exact Below.refl _ _ | (refine below_chain ?_ (by assumption) (by first | omega | (simp <;> omega) | simp)) | (refine Below.alloc ?_ (by first | omega | (simp <;> omega) | simp) _) | (apply below_drewN) | (apply below_drew) | (refine Below.setCell ?_ (by first | omega | (simp <;> omega) | simp) _)))).mono hsV))
    have hlw := hlaw.out
    obtain ⟨hx3, hy3, hz3⟩ := H3.out
    clear cx cy' cz hlaw H3 HV O1V O2V HBV hb_w1 hb_w2 hb_w3 hs_w1 hs_w2 hs_w3 x0 x1 y0 y1 z0 z1 hDV hD1 hD2 hsV
    rcases hx3 with rfl | rfl | rfl <;> rcases hy3 with rfl | rfl | rfl <;> rcases hz3 with rfl | rfl | rfl <;> first | (exfalso; omega) | (clear hlw; go_wp2_with fail; go_ret; exact ⟨rfl, HF.out⟩)

set_option maxRecDepth 100000 in
theorem walk_long (len cap : Nat) (p : Option Addr) (len1 cap1 : Nat) (p1 : Option Addr) (w : World) (hl : 1048576 < len ∨ 1048576 < len1) :
    Calls Try.prog 8 #[.slice p len cap, .slice p1 len1 cap1] w fun e w' => e = .returned (.bool true) ∧ Below w.heap.size w w' := by
  by_cases h0 : (1048576 : Int) < (len : Int)
  · go_enter Try.func8, Try.ntmps8
    go_wp2
    go_ret
    exact ⟨rfl, Below.refl _ _⟩
  · have hl' : (1048576 : Int) < (len1 : Int) := by omega
    clear hl
    go_enter Try.func8, Try.ntmps8
    go_wp2
    go_ret
    exact ⟨rfl, Below.refl _ _⟩

set_option maxRecDepth 100000 in
theorem lifted (os : Os) (started : os.Started) (H : Type) (enc : TypeId × Value → H) :
    ReturnsInHanded {} Try.checked os 8 .any (Rows.fnSplitPlaceSpec.pre6 enc Try.prog Try.f8 Rows.fnSplitPlaceRow.domain false) (Rows.fnSplitPlaceSpec.post enc Try.prog Try.f8 false true false false) := by
  refine returnsInHanded_of_change (C := Try.checked) own started (by kernel_rfl) Try.func8
    (ChangeSpec.witness6 (enc := enc) (C := Try.checked) false ⟨#[], #[.slice none 0 0, .slice none 0 0], []⟩ 8 (by kernel_rfl) (by kernel_rfl) (by kernel_rfl) (by kernel_rfl)) ?_
  intro W base args ds gs before hval0 hW hcnd _
  have hval : ∀ (j : Nat) t v, Try.f8.params[j]? = some t → args[j]? = some v → Value.okWide Try.prog W .any base t v := hval0
  have hW' := hW
  obtain ⟨p, q, hA0, hV, rfl, hfz, hnd⟩ := hW
  have hA : DataW.TrodAll enc Try.prog W 0 (fun _ => true) true Try.f8.params.toList args.toList ds p := hA0
  rw [Try.params8] at hA hval
  obtain ⟨v0, vs0, d0, ds0, p0, q0, hargs, rfl, rfl, h0, r0⟩ := trodAll_cons hA
  obtain ⟨v1, vs1, d1, ds1, p1, q1, rfl, rfl, rfl, h1, r1⟩ := trodAll_cons r0
  obtain ⟨rfl, rfl, rfl⟩ := trodAll_nil r1
  obtain rfl : args = #[v0, v1] := by cases args; simp_all
  obtain ⟨rfl, rfl⟩ := trodVars_none hV
  obtain ⟨a0, len0, cap0, rfl⟩ := okWide_slice Try.underlying22 (hval 0 22 v0 rfl rfl)
  have k0 := h0
  have lt0 : ∀ x ∈ p0, x.block < W.heap.size := by obtain ⟨m, hm⟩ := k0; exact DataW.trod_lt m _ _ _ hm
  obtain ⟨z0, w0⟩ : ∃ zs, IsRow .u8 W a0 len0 cap0 zs := by
    obtain ⟨fuel, hf⟩ := h0
    rcases open_ints Try.underlying22 Try.underlying5 (by kernel_rfl) hf with ⟨hcs, _⟩ | ⟨x, l, c, zs, hcs, _, hl, hm, hz, _, hcell, hwz⟩
    · simp [Value.cells] at hcs
      obtain ⟨rfl, rfl, rfl⟩ := hcs
      exact ⟨[], .inl ⟨rfl, rfl, rfl, rfl⟩⟩
    · simp [Value.cells] at hcs
      obtain ⟨rfl, rfl, rfl⟩ := hcs
      exact ⟨zs, .inr ⟨_, rfl, hl, hm, by simpa using hz, hcell, hwz⟩⟩
  obtain ⟨a1, len1, cap1, rfl⟩ := okWide_slice Try.underlying22 (hval 1 22 v1 rfl rfl)
  have k1 := h1
  have lt1 : ∀ x ∈ p1, x.block < W.heap.size := by obtain ⟨m, hm⟩ := k1; exact DataW.trod_lt m _ _ _ hm
  obtain ⟨z1, w1⟩ : ∃ zs, IsRow .u8 W a1 len1 cap1 zs := by
    obtain ⟨fuel, hf⟩ := h1
    rcases open_ints Try.underlying22 Try.underlying5 (by kernel_rfl) hf with ⟨hcs, _⟩ | ⟨x, l, c, zs, hcs, _, hl, hm, hz, _, hcell, hwz⟩
    · simp [Value.cells] at hcs
      obtain ⟨rfl, rfl, rfl⟩ := hcs
      exact ⟨[], .inl ⟨rfl, rfl, rfl, rfl⟩⟩
    · simp [Value.cells] at hcs
      obtain ⟨rfl, rfl, rfl⟩ := hcs
      exact ⟨zs, .inr ⟨_, rfl, hl, hm, by simpa using hz, hcell, hwz⟩⟩
  clear hA0 hval0
  have hw : Calls Try.prog 8 #[.slice a0 len0 cap0, .slice a1 len1 cap1] W fun e w' => e = .returned (.bool true) ∧ Below W.heap.size W w' := by
    by_cases hl : len0 ≤ 1048576
    · by_cases hm : len1 ≤ 1048576
      · exact walk len0 cap0 a0 len1 cap1 a1 W hl hm (Lib.hid (code_of_row w0 hl)) (Lib.hid (code_of_row w1 hm))
      · exact walk_long len0 cap0 a0 len1 cap1 a1 W (by omega)
    · exact walk_long len0 cap0 a0 len1 cap1 a1 W (by omega)
  refine hw.mono fun e W' ⟨he, bel⟩ => ?_
  subst he
  exact ⟨_, rfl, _, _, _, [], _, [], hW', trodAll_mk1 (shut_bool Try.underlying4 _), (trodAll_cons_mk (Below.trod laidOut (by kernel_rfl) (of_decide_eq_true (by kernel_rfl)) k0 bel lt0) (trodAll_cons_mk (Below.trod laidOut (by kernel_rfl) (of_decide_eq_true (by kernel_rfl)) k1 bel lt1) trodAll_mk0)), rfl, bel.frame _, fun h => by cases h⟩

theorem over : Rows.fnSplitPlaceRow.holds Try.pinned (OpenSpec.ofChange Rows.fnSplitPlaceSpec) :=
  OpenClaim.holds_of_wide 8 Try.f8 rfl rfl rfl rfl rfl rfl rfl ⟨rfl, rfl, rfl, rfl, rfl⟩ rfl rfl rfl rfl rfl (by kernel_rfl) Try.func8 (by unfold joinedFacts; rw [seat_enter, seat_lift, seat_make]; kernel_rfl)
    (of_decide_eq_true (by kernel_rfl)) (by unfold Func.isWrapper; first | (rw [if_pos (by decide +kernel)]; kernel_rfl) | (rw [if_neg (by decide +kernel)]; exact ⟨rfl, rfl⟩))
    (fun os started H enc _ => lifted os started H enc)

theorem proved : Rows.FnSplitPlaceSaid := over
end Go.Proofs.Ytegcjdcinebleaa.fnSplitPlace

