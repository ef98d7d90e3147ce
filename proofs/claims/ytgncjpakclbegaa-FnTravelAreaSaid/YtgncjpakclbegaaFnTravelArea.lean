/-
  For every code the law FnTravelArea returns true: impl.TravelClose answers as the reference model does; the points of a closed traverse from (0, 0) on, without the last, which is (0, 0) again, have twice the area that the sum over all steps of the products of place and step gives. No condition: every list of bytes is taken.
-/
import Derived.Test.YtgncjpakclbegaaPka
import Derived.Test.YtgncjpakclbegaaYip
import Derived.Test.YtgncjpakclbegaaHe
import Derived.Test.YtgncjpakclbegaaHh
import Derived.Test.YtgncjpakclbegaaHi
import Derived.Test.YtgncjpakclbegaaHj
import Derived.Test.YtgncjpakclbegaaCode
set_option linter.unusedSimpArgs false
set_option linter.unusedVariables false
namespace Go.Proofs.Ytgncjpakclbegaa.fnTravelArea
open Go.ChangeShapes Go.WideShapes Go.ChangeAt Go.RowKit Poly

theorem fl_pre {W : List P2} {m i : Nat} {z : Int} (h : (Poly.fl (W.take m))[i]? = some z) : (Poly.fl W)[i]? = some z := by
  obtain ⟨h1, -⟩ := List.getElem?_eq_some_iff.1 h
  have e := fl_append (W.take m) (W.drop m)
  rw [List.take_append_drop] at e
  rw [e, List.getElem?_append_left h1]
  exact h
theorem own_take {w : World} {g : Nat} {T : TypeId} {n cap : Nat} {W : List P2} (m : Nat) (h : Own w g T 2 n cap (Poly.fl W)) : Ints w (some ⟨g, 0, none⟩) (Poly.fl (W.take m)) :=
  .inr ⟨g, 0, rfl, h.lt, fun i z hi => by rw [Nat.zero_add]; exact h.cells (fl_pre hi)⟩
theorem own_capA {w : World} {g : Nat} {T : TypeId} {sz n cap : Nat} {xs : List Int} (h : Own w g T sz n cap xs) : n ≤ cap := by obtain ⟨_, _, h1, _⟩ := h.body; exact h1
theorem ok_way {M : List P2} {p : P2} {n : Nat} (h : goT p M = true) (hn : M.length = n) (h3 : 3 ≤ n) : okP ((wayT p M).take n) = true := by
  have hl := tvV_len (goT_parts h).1
  have e : ((wayT p M).take n).length = n := by rw [List.length_take, wayT_len]; omega
  unfold okP
  rw [e, decide_eq_true (by omega), Bool.true_and, List.all_eq_true]
  exact fun q hq => (goT_parts h).2 q (List.mem_of_mem_take hq)
theorem area_at {w : World} {p : Option Addr} {c n : Nat} {L : List P2} {A : Int} (h : Ints w p (Poly.fl L)) (hn : L.length = n) (hc : n ≤ c) (hok : okP L = true) (hA : areaL L = A) :
    Calls Try.prog 21 #[.slice p n c] w fun e w' => e = .returned (.tuple #[.int .i64 A, .bool true]) ∧ Below w.heap.size w w' := by
  subst hn hA
  exact iPolyArea_yes h hc hok

set_option maxHeartbeats 16000000 in
set_option maxRecDepth 100000 in
theorem walk (len cap : Nat) (p : Option Addr) (w : World) (hl : len ≤ 1048576) (h : Hid (Code' w (.slice p len cap))) :
    Calls Try.prog 10 #[.slice p len cap] w fun e w' => e = .returned (.bool true) ∧ Below w.heap.size w w' := by
  have hl' : ¬ (1048576 : Int) < (len : Int) := by omega
  go_enter Try.func10, Try.ntmps10
  go_upto_region 4 with (go_at_call 44; (with_reducible refine (drawTravelClose_is _ _ h).mono ?_); rintro e wd ⟨L, q, c, rfl, hc, h12, hI, hne, hb_wd⟩; have hs_wd := hb_wd.size)
  clear h hne
  obtain ⟨n, hn⟩ : ∃ n, L.length = n := ⟨_, rfl⟩
  rw [hn] at hc h12 ⊢
  have H := Lib.hid (And.intro hI (And.intro hn hb_wd))
  cases hg : clsOk L
  · have c1 := fun w h => Lib.hid (iTravelClose_no (p := q) (n := n) (c := c) (L := L) (w := w) h hn hg)
    have c2 := fun w h => Lib.hid (sTravelClose_no (p := q) (n := n) (c := c) (L := L) (w := w) h hn (by omega) hg)
    clear hI hn hg
    go_wp2_with (first | (go_at_call 45; (with_reducible refine ((c1 _ ?_).out).mono ?_); (focus ((exact H.out.1); done)); rintro e wi ⟨rfl, hb_wi⟩; have hs_wi := hb_wi.size; (try simp at hs_wi)) | (go_at_call 46; (with_reducible refine ((c2 _ ?_).out).mono ?_); (focus ((exact H.out.1.below hb_wi); done)); rintro e ws ⟨g2, m2, d2, rfl, rfl, hb_ws⟩; have hs_ws := hb_ws.size; (try simp at hs_ws)) | (go_at_call 39; (with_reducible refine (samePts_nil _ _ _ _ _).mono ?_); rintro e wz ⟨rfl, hb_wz⟩; have hs_wz := hb_wz.size; (try simp at hs_wz)))
    go_ret
    exact ⟨rfl, (by repeat (first | assumption | exact Below.refl _ _ | (refine below_chain ?_ (by assumption) (by first | omega | (simp <;> omega) | simp)) | (refine Below.alloc ?_ (by first | omega | (simp <;> omega) | simp) _) | (apply below_drewN) | (apply below_drew) | (refine Below.setCell ?_ (by first | omega | (simp <;> omega) | simp) _)))⟩
  · obtain ⟨ht, hlo, htc⟩ := clsOk_parts hg
    have hn1 := (tvV_len ht).1
    rw [hn] at hn1
    have hcl : (clsT L).length = n := by rw [clsT_len, hn]
    obtain ⟨B, o, rfl, hB, -, -⟩ := hI.pt (i := 0) (by omega)
    have c1 := fun w h => Lib.hid (iTravelClose_yes (p := some ⟨B, o, none⟩) (n := n) (c := c) (L := L) (w := w) h hn hg)
    have c2 := fun w h => Lib.hid (sTravelClose_yes (p := some ⟨B, o, none⟩) (n := n) (c := c) (L := L) (w := w) h hn hg)
    have hgap := gap_cls hlo
    obtain ⟨M, hM⟩ : ∃ M, clsT L = M := ⟨_, rfl⟩
    rw [hM] at hcl hgap htc c1 c2
    have HL := Lib.hid (And.intro hcl (And.intro hgap htc))
    clear hI hn hg ht hlo htc hcl hM hgap
    go_upto_region 8 with (first | (go_at_call 45; (with_reducible refine ((c1 _ ?_).out).mono ?_); (focus ((exact H.out.1); done)); rintro e wi ⟨g1, rfl, hg1, ho1, hb_wi⟩; have hs_wi := hb_wi.size; (try simp at hs_wi)) | (go_at_call 46; (with_reducible refine ((c2 _ ?_).out).mono ?_); (focus ((exact H.out.1.below hb_wi); done)); rintro e ws ⟨g2, d2, rfl, hg2, ho2, hb_ws⟩; have hs_ws := hb_ws.size; (try simp at hs_ws)) | (go_at_call 39; (with_reducible refine (samePts _ _ n _ _ M _ ?_ ?_ HL.out.1 (by omega)).mono ?_); (focus ((exact (ho1.below hb_ws).pts); done)); (focus ((exact ho2.pts); done)); rintro e wz ⟨rfl, hb_wz⟩; have hs_wz := hb_wz.size; (try simp at hs_wz)))
    have hiw : Below wi.heap.size wi wz := (by repeat (first | assumption | exact Below.refl _ _ | (refine below_chain ?_ (by assumption) (by first | omega | (simp <;> omega) | simp)) | (refine Below.alloc ?_ (by first | omega | (simp <;> omega) | simp) _) | (apply below_drewN) | (apply below_drew) | (refine Below.setCell ?_ (by first | omega | (simp <;> omega) | simp) _)))
    have hdz : Below wd.heap.size wd wz := hb_wi.trans (hiw.mono hs_wi)
    have HA : Hid (Own wz g1 31 2 n n (Poly.fl M) ∧ Below w.heap.size w wz) := Lib.hid ⟨ho1.below hiw, H.out.2.2.trans (hdz.mono hs_wd)⟩
    have hwz := HA.out.2.size
    have hgz := HA.out.1.lt
    clear ho1 ho2 hb_wi hb_ws hb_wz hs_wi hs_ws hs_wz hg1 hg2 c1 c2 hiw hdz hb_wd hs_wd H hB
    cases hgo : goT (0, 0) M
    · have c1 := fun w h => Lib.hid (iTravelPoints_no (p := some ⟨g1, 0, none⟩) (n := n) (c := n) (L := M) (w := w) (x := 0) (y := 0) h HL.out.1 hgo)
      clear hgo
      go_upto_region 9 with (go_at_call 37; (with_reducible refine ((c1 _ ?_).out).mono ?_); (focus ((exact HA.out.1.pts); done)); rintro e wp ⟨rfl, hb_wp⟩; have hs_wp := hb_wp.size; (try simp at hs_wp))
      by_cases h3 : (n : Int) < 3
      · go_wp2_with fail
        go_ret
        exact ⟨rfl, HA.out.2.trans (hb_wp.mono hwz)⟩
      · go_wp2_with fail
        go_ret
        exact ⟨rfl, HA.out.2.trans (hb_wp.mono hwz)⟩
    · have c1 := fun w h => Lib.hid (iTravelPoints_yes (p := some ⟨g1, 0, none⟩) (n := n) (c := n) (L := M) (w := w) (x := 0) (y := 0) h HL.out.1 hgo)
      have HG := Lib.hid hgo
      clear hgo
      go_upto_region 9 with (go_at_call 37; (with_reducible refine ((c1 _ ?_).out).mono ?_); (focus ((exact HA.out.1.pts); done)); rintro e wp ⟨g3, d3, rfl, hg3, ho3, hb_wp⟩; have hs_wp := hb_wp.size; (try simp at hs_wp))
      have HP := Lib.hid (And.intro ho3 hb_wp)
      have hd3 := own_capA ho3
      have hl3 := ho3.lt
      have hnd : n ≤ d3 := by omega
      have hnd' : (n : Int) ≤ (d3 : Int) := by omega
      clear ho3 hb_wp c1
      by_cases h3 : (n : Int) < 3
      · go_wp2_with fail
        go_ret
        exact ⟨rfl, HA.out.2.trans (HP.out.2.mono hwz)⟩
      · obtain ⟨A, hA⟩ : ∃ A, areaL ((wayT (0, 0) M).take n) = A := ⟨_, rfl⟩
        have hA2 := Lib.hid ((area_way HL.out.1 (by omega) HL.out.2.1).symm.trans hA)
        have hwl : ((wayT (0, 0) M).take n).length = n := by rw [List.length_take, wayT_len]; have := HL.out.1; omega
        have cA := fun w h => Lib.hid (area_at (w := w) (p := some ⟨g3, 0, none⟩) (c := d3) h hwl hnd (ok_way HG.out HL.out.1 (by omega)) hA)
        have hn0 : (0 : Int) ≤ (n : Int) := by omega
        have hn1' : (n : Int) ≤ (n : Int) + 1 := by omega
        clear hwl hA
        go_upto_region 12 with (go_at_call 21; (with_reducible refine ((cA _ ?_).out).mono ?_); (focus ((exact own_take _ HP.out.1); done)); rintro e wq ⟨rfl, hb_wq⟩; have hs_wq := hb_wq.size; (try simp at hs_wq))
        have hzq : Below wz.heap.size wz wq := HP.out.2.trans (hb_wq.mono hs_wp)
        have HK : Hid (Own wq g1 31 2 n n (Poly.fl M) ∧ Own wq g3 31 2 (n + 1) d3 (Poly.fl (wayT (0, 0) M)) ∧ Below w.heap.size w wq) := Lib.hid ⟨HA.out.1.below hzq, HP.out.1.below hb_wq, HA.out.2.trans (hzq.mono hwz)⟩
        have hwq := HK.out.2.2.size
        have hl1 := HK.out.1.lt
        have hl3 := HK.out.2.1.lt
        clear hzq HA HP hb_wq cA hs_wq
        go_wp2_with fail
        go_loopw [12, 13] (fun a i wr => ∃ (k : Nat) (T : Int), k ≤ n ∧ i = .int .i64 k ∧ a = .int .i64 T ∧ sumF (fun i => crP (cy (wayT (0, 0) M) i) (cy M i)) k = T ∧ -(400000000 * (k : Int)) ≤ T ∧ T ≤ 400000000 * (k : Int) ∧ Below wq.heap.size wq wr) (fun _ i _ => n - (intOf i).toNat)
        case atStart => exact ⟨0, 0, Nat.zero_le _, rfl, rfl, rfl, by omega, by omega, Below.refl _ _⟩
        case round =>
          obtain ⟨k, T, hk, rfl, rfl, hT, hT1, hT2, hb⟩ := hrel
          have hbs := hb.size
          by_cases hlt : k < n
          · have hlt' : (k : Int) < (n : Int) := by omega
            have hk0 : (0 : Int) ≤ (k : Int) := by omega
            have hk1 : (k : Int) < (n : Int) + 1 := by omega
            have hkM : k < M.length := by have := HL.out.1; omega
            have hkW : k < (wayT (0, 0) M).length := by rw [wayT_len]; omega
            have hpv : pvP (cy (wayT (0, 0) M) k) = true := (goT_parts HG.out).2 _ (List.mem_of_getElem? (cy_lt hkW))
            obtain ⟨b1, b2⟩ := stP_bd (tvV_at HL.out.2.2 hkM)
            have hpb := Pt.pv_true hpv
            have x0 := (HK.out.1.below hb).cells (fl_at (cy_lt hkM)).1
            have x1 := (HK.out.1.below hb).cells (fl_at (cy_lt hkM)).2
            have y0 := (HK.out.2.1.below hb).cells (fl_at (cy_lt hkW)).1
            have y1 := (HK.out.2.1.below hb).cells (fl_at (cy_lt hkW)).2
            have hT' : sumF (fun i => crP (cy (wayT (0, 0) M) i) (cy M i)) (k + 1) = T + crP (cy (wayT (0, 0) M) k) (cy M k) := by rw [← hT]; rfl
            obtain ⟨s, hs⟩ : ∃ s, cy M k = s := ⟨_, rfl⟩
            obtain ⟨u, hu⟩ : ∃ u, cy (wayT (0, 0) M) k = u := ⟨_, rfl⟩
            rw [hs] at x0 x1 b1 b2 hT'
            rw [hu] at y0 y1 hpb hT'
            have m1 := Pt.mul_bd (a := u.1) (b := s.2) (m := 10000) (n := 20000) (by omega) (by omega) (by omega) (by omega)
            have m2 := Pt.mul_bd (a := u.2) (b := s.1) (m := 10000) (n := 20000) (by omega) (by omega) (by omega) (by omega)
            have hcr : crP u s = u.1 * s.2 - u.2 * s.1 := by unfold crP Pt.cr; rfl
            rw [hcr] at hT'
            have HV : Hid (IntKind.i64.wrap (IntKind.i64.wrap (T + IntKind.i64.wrap (u.1 * s.2)) - IntKind.i64.wrap (u.2 * s.1)) = T + (u.1 * s.2 - u.2 * s.1)) := Lib.hid (by
              generalize u.1 * s.2 = P1 at *
              generalize u.2 * s.1 = P2 at *
              simp only [IntKind.wrap_i64]; omega)
            have HT : Hid (sumF (fun i => crP (cy (wayT (0, 0) M) i) (cy M i)) (k + 1) = T + (u.1 * s.2 - u.2 * s.1) ∧ -(400000000 * ((k + 1 : Nat) : Int)) ≤ T + (u.1 * s.2 - u.2 * s.1) ∧ T + (u.1 * s.2 - u.2 * s.1) ≤ 400000000 * ((k + 1 : Nat) : Int)) := Lib.hid ⟨hT', by
              generalize u.1 * s.2 = P1 at *
              generalize u.2 * s.1 = P2 at *
              omega, by
              generalize u.1 * s.2 = P1 at *
              generalize u.2 * s.1 = P2 at *
              omega⟩
            have HB := Lib.hid hb
            clear hb hT hT1 hT2 hT' b1 b2 hpb m1 m2 hcr hpv hs hu
            go_upto_region 16 with fail
            go_region_held3 (fun W => W.cell? ⟨g1, k * 2, none⟩ = some (.int .i64 s.1) ∧ W.cell? ⟨g1, k * 2 + 1, none⟩ = some (.int .i64 s.2) ∧ W.cell? ⟨g3, k * 2, none⟩ = some (.int .i64 u.1) ∧ W.cell? ⟨g3, k * 2 + 1, none⟩ = some (.int .i64 u.2)) ((go_keep; done)) (fail)
            go_wp2_with fail
            exact ⟨⟨k + 1, _, by omega, by go_num, by rw [HV.out], HT.out.1, HT.out.2.1, HT.out.2.2, below_dr HB.out⟩, by (try simp [intOf]); (try omega)⟩
          · have e : k = n := by omega
            subst e
            have HB := Lib.hid (HK.out.2.2.trans (hb.mono hwq))
            have e : A = T := by rw [← hA2.out, hT]
            subst e
            have hw := wayT_last M (0, 0)
            rw [HL.out.1, endT_gap, HL.out.2.1] at hw
            have x0 : wr.cell? ⟨g3, k * 2, none⟩ = some (.int .i64 0) := (HK.out.2.1.below hb).cells (fl_at hw).1
            have x1 : wr.cell? ⟨g3, k * 2 + 1, none⟩ = some (.int .i64 0) := (HK.out.2.1.below hb).cells (fl_at hw).2
            have hk1 : (k : Int) < (k : Int) + 1 := by omega
            clear hb hT hw
            go_wp2_with fail
            go_ret
            exact ⟨rfl, HB.out⟩

set_option maxRecDepth 100000 in
theorem walk_long (len cap : Nat) (p : Option Addr) (w : World) (hl : 1048576 < len) :
    Calls Try.prog 10 #[.slice p len cap] w fun e w' => e = .returned (.bool true) ∧ Below w.heap.size w w' := by
  have hl' : (1048576 : Int) < (len : Int) := by omega
  go_enter Try.func10, Try.ntmps10
  go_wp2
  go_ret
  exact ⟨rfl, Below.refl _ _⟩

set_option maxRecDepth 100000 in
theorem lifted (os : Os) (started : os.Started) (H : Type) (enc : TypeId × Value → H) :
    ReturnsInHanded {} Try.checked os 10 .any (Rows.fnTravelAreaSpec.pre6 enc Try.prog Try.f10 Rows.fnTravelAreaRow.domain false) (Rows.fnTravelAreaSpec.post enc Try.prog Try.f10 false true false false) := by
  refine returnsInHanded_of_change (C := Try.checked) own started (by kernel_rfl) Try.func10
    (ChangeSpec.witness6 (enc := enc) (C := Try.checked) false ⟨#[], #[.slice none 0 0], []⟩ 8 (by kernel_rfl) (by kernel_rfl) (by kernel_rfl) (by kernel_rfl)) ?_
  intro W base args ds gs before hval0 hW hcnd _
  have hval : ∀ (j : Nat) t v, Try.f10.params[j]? = some t → args[j]? = some v → Value.okWide Try.prog W .any base t v := hval0
  have hW' := hW
  obtain ⟨p, q, hA0, hV, rfl, hfz, hnd⟩ := hW
  have hA : DataW.TrodAll enc Try.prog W 0 (fun _ => true) true Try.f10.params.toList args.toList ds p := hA0
  rw [Try.params10] at hA hval
  obtain ⟨v0, vs0, d0, ds0, p0, q0, hargs, rfl, rfl, h0, r0⟩ := trodAll_cons hA
  obtain ⟨rfl, rfl, rfl⟩ := trodAll_nil r0
  obtain rfl : args = #[v0] := by cases args; simp_all
  obtain ⟨rfl, rfl⟩ := trodVars_none hV
  obtain ⟨a0, len0, cap0, rfl⟩ := okWide_slice Try.underlying22 (hval 0 22 v0 rfl rfl)
  have k0 := h0
  have lt0 : ∀ x ∈ p0, x.block < W.heap.size := by obtain ⟨m, hm⟩ := k0; exact DataW.trod_lt m _ _ _ hm
  obtain ⟨z0, w0⟩ : ∃ zs, IsRow .u8 W a0 len0 cap0 zs := by
    obtain ⟨fuel, hf⟩ := h0
    rcases open_ints Try.underlying22 Try.underlying5 (by kernel_rfl) hf with ⟨hcs, _⟩ | ⟨x, l, c, zs, hcs, _, hl, hm, hz, _, hcell, hwz⟩
    · simp [Value.cells] at hcs
      obtain ⟨rfl, rfl, rfl⟩ := hcs
      exact ⟨[], .inl ⟨rfl, rfl, rfl, rfl⟩⟩
    · simp [Value.cells] at hcs
      obtain ⟨rfl, rfl, rfl⟩ := hcs
      exact ⟨zs, .inr ⟨_, rfl, hl, hm, by simpa using hz, hcell, hwz⟩⟩
  clear hA0 hval0
  have hw : Calls Try.prog 10 #[.slice a0 len0 cap0] W fun e w' => e = .returned (.bool true) ∧ Below W.heap.size W w' := by
    by_cases hl : len0 ≤ 1048576
    · exact walk len0 cap0 a0 W hl (Lib.hid (code_of_row w0 hl))
    · exact walk_long len0 cap0 a0 W (by omega)
  refine hw.mono fun e W' ⟨he, bel⟩ => ?_
  subst he
  exact ⟨_, rfl, _, _, _, [], _, [], hW', trodAll_mk1 (shut_bool Try.underlying4 _), (trodAll_cons_mk (Below.trod laidOut (by kernel_rfl) (of_decide_eq_true (by kernel_rfl)) k0 bel lt0) trodAll_mk0), rfl, bel.frame _, fun h => by cases h⟩

theorem over : Rows.fnTravelAreaRow.holds Try.pinned (OpenSpec.ofChange Rows.fnTravelAreaSpec) :=
  OpenClaim.holds_of_wide 10 Try.f10 rfl rfl rfl rfl rfl rfl rfl ⟨rfl, rfl, rfl, rfl, rfl⟩ rfl rfl rfl rfl rfl (by kernel_rfl) Try.func10 (by unfold joinedFacts; rw [seat_enter, seat_lift, seat_make]; kernel_rfl)
    (of_decide_eq_true (by kernel_rfl)) (by unfold Func.isWrapper; first | (rw [if_pos (by decide +kernel)]; kernel_rfl) | (rw [if_neg (by decide +kernel)]; exact ⟨rfl, rfl⟩))
    (fun os started H enc _ => lifted os started H enc)

theorem proved : Rows.FnTravelAreaSaid := over
end Go.Proofs.Ytgncjpakclbegaa.fnTravelArea

