/-
  For every two codes the law FnPolyArea returns true: impl.PolyArea answers as the reference model does; the corners the other way round give the area with the other sign, the corners begun elsewhere or turned by a right angle give the same area, and so do all triangles from the first corner together. No condition: every two lists of bytes are taken.
-/
import Derived.Test.YthecapioagogbaaYdf
import Derived.Test.YthecapioagogbaaYt
import Derived.Test.YthecapioagogbaaCode
namespace Go.Proofs.Ythecapioagogbaa.fnPolyArea
open Go.ChangeShapes Go.WideShapes Go.ChangeAt Go.RowKit Poly
set_option linter.unusedVariables false

theorem area_at (w : World) (p : Option Addr) (c n : Nat) (L : List P2) (A : Int) (h : Ints w p (fl L)) (hn : L.length = n) (hc : n ≤ c) (hok : okP L = true) (hA : areaL L = A) :
    Calls Try.prog 19 #[.slice p n c] w fun e w' => e = .returned (.tuple #[.int .i64 A, .bool true]) ∧ Below w.heap.size w w' := by
  subst hn hA
  exact iPolyArea_yes h hc hok
theorem areaS_at (w : World) (p : Option Addr) (c n : Nat) (L : List P2) (A : Int) (h : Ints w p (fl L)) (hn : L.length = n) (h12 : n ≤ 12) (hok : okP L = true) (hA : areaL L = A) :
    Calls Try.prog 23 #[.slice p n c] w fun e w' => e = .returned (.tuple #[.int .i64 A, .bool true]) ∧ Below w.heap.size w w' := by
  subst hn hA
  exact sPolyArea_yes h (by omega) hok
theorem back_at (w : World) (p : Option Addr) (c n : Nat) (L : List P2) (h : Ints w p (fl L)) (hn : L.length = n) (hc : n ≤ c) (hok : okP L = true) :
    Calls Try.prog 18 #[.slice p n c] w fun e w' => ∃ g cap : Nat, e = .returned (.tuple #[.slice (some ⟨g, 0, none⟩) n cap, .bool true]) ∧ w.heap.size ≤ g ∧ Own w' g 31 2 n cap (fl (backL L)) ∧ Below w.heap.size w w' := by
  subst hn
  exact iPolyBack_yes h hc hok
theorem own_cap {w : World} {g : Nat} {T : TypeId} {sz n cap : Nat} {xs : List Int} (h : Own w g T sz n cap xs) : n ≤ cap := by obtain ⟨_, _, h1, _⟩ := h.body; exact h1

theorem tri_pts (w : World) (a b d : P2) :
    Ints (w.alloc (.cells #[.int .i64 a.1, .int .i64 a.2, .int .i64 b.1, .int .i64 b.2, .int .i64 d.1, .int .i64 d.2] 31)).drew (some ⟨w.heap.size, 0, none⟩) (fl [a, b, d]) :=
  (show Own _ w.heap.size 31 2 3 3 (fl [a, b, d]) from .of (Deep.blk_alloc_new _ _) (Nat.le_refl _) (by unfold maxLen; omega) rfl rfl rfl : Own (w.alloc (.cells #[.int .i64 a.1, .int .i64 a.2, .int .i64 b.1, .int .i64 b.2, .int .i64 d.1, .int .i64 d.2] 31)) w.heap.size 31 2 3 3 (fl [a, b, d])).pts
set_option maxHeartbeats 8000000 in
set_option maxRecDepth 100000 in
theorem walk (len cap : Nat) (p : Option Addr) (len2 cap2 : Nat) (p2 : Option Addr) (w : World) (hl : len ≤ 1048576) (hl2 : len2 ≤ 1048576) (h : Hid (Code' w (.slice p len cap))) (h2 : Hid (Code' w (.slice p2 len2 cap2))) :
    Calls Try.prog 4 #[.slice p len cap, .slice p2 len2 cap2] w fun e w' => e = .returned (.bool true) ∧ Below w.heap.size w w' := by
  have hl' : ¬ (1048576 : Int) < (len : Int) := by omega
  have hl2' : ¬ (1048576 : Int) < (len2 : Int) := by omega
  clear h2
  go_enter Try.func4, Try.ntmps4
  go_upto_region 4 with (go_at_call 22; (with_reducible refine (drawPolyArea_is _ _ h).mono ?_); rintro e wd ⟨L, q, c, rfl, hc, h12, hI, hb_wd⟩; have hs_wd := hb_wd.size)
  clear h
  cases hok : okP L
  · have H := Lib.hid hI
    have c1 := fun w h => Lib.hid (iPolyArea_no (p := q) (c := c) (w := w) (L := L) h hc (by omega) hok)
    have c2 := fun w h => Lib.hid (sPolyArea_no (p := q) (c := c) (w := w) (L := L) h (by omega) hok)
    clear hI hok
    go_wp2_with (first | (go_at_call 19; (with_reducible refine ((c1 _ ?_).out).mono ?_); (focus ((exact H.out); done)); rintro e wi ⟨rfl, hb_wi⟩; have hs_wi := hb_wi.size; (try simp at hs_wi)) | (go_at_call 23; (with_reducible refine ((c2 _ ?_).out).mono ?_); (focus ((exact H.out.below hb_wi); done)); rintro e ws ⟨rfl, hb_ws⟩; have hs_ws := hb_ws.size; (try simp at hs_ws)))
    go_ret
    exact ⟨rfl, (by repeat (first | assumption | exact Below.refl _ _ | (refine below_chain ?_ (by assumption) (by first | omega | (simp <;> omega) | simp)) | (refine Below.alloc ?_ (by first | omega | (simp <;> omega) | simp) _) | (apply below_drewN) | (apply below_drew) | (refine Below.setCell ?_ (by first | omega | (simp <;> omega) | simp) _)))⟩
  · have hl3 := (okP_len hok).1
    obtain ⟨B, o, rfl, hBw, -, -⟩ := hI.pt (i := 0) (by omega)
    obtain ⟨n, hn⟩ : ∃ n, L.length = n := ⟨_, rfl⟩
    obtain ⟨A, hA⟩ : ∃ A, areaL L = A := ⟨_, rfl⟩
    have hAb := area_bd hok
    rw [hA] at hAb
    rw [hn] at hc h12 hl3 ⊢
    have HX := Lib.hid (And.intro hn (And.intro hA hok))
    have HI := Lib.hid hI
    clear hI hn hA hok
    have hmod : len2 % n < n := Nat.mod_lt _ (by omega)
    obtain ⟨M, hM⟩ : ∃ M, len2 % n = M := ⟨_, rfl⟩
    rw [hM] at hmod
    have hMi : (len2 : Int) % (n : Int) = (M : Int) := by rw [← hM, Int.natCast_emod]
    have hN0 : ¬ n = 0 := by omega
    have hN0' : ¬ (n : Int) = 0 := by omega
    clear hM
    go_upto_region 9 with (first | (go_at_call 19; (with_reducible refine (area_at _ _ c n L A ?_ HX.out.1 hc HX.out.2.2 HX.out.2.1).mono ?_); (focus ((exact HI.out); done)); rintro e wi ⟨rfl, hb_wi⟩; have hs_wi := hb_wi.size; (try simp at hs_wi)) | (go_at_call 23; (with_reducible refine (areaS_at _ _ c n L A ?_ HX.out.1 h12 HX.out.2.2 HX.out.2.1).mono ?_); (focus ((exact HI.out.below (by repeat (first | assumption | exact Below.refl _ _ | (refine below_chain ?_ (by assumption) (by first | omega | (simp <;> omega) | simp)) | (refine Below.alloc ?_ (by first | omega | (simp <;> omega) | simp) _) | (apply below_drewN) | (apply below_drew) | (refine Below.setCell ?_ (by first | omega | (simp <;> omega) | simp) _)))); done)); rintro e ws ⟨rfl, hb_ws⟩; have hs_ws := hb_ws.size; (try simp at hs_ws)))
    rw [hMi]
    have HN : Hid ((backL L).length = n ∧ areaL (backL L) = -A ∧ okP (backL L) = true ∧ (begL L M).length = n ∧ areaL (begL L M) = A ∧ okP (begL L M) = true ∧ (rotL L).length = n ∧ areaL (rotL L) = A ∧ okP (rotL L) = true) := by
      obtain ⟨e1, e2, e3⟩ := HX.out
      refine Lib.hid ⟨by rw [back_len2]; exact e1, by rw [area_back (by omega), e2], okP_back e3, by rw [beg_len (by omega)]; exact e1, by rw [area_beg (by omega)]; exact e2, okP_beg e3 (by omega), by rw [rot_len]; exact e1, by rw [area_rot (by omega)]; exact e2, okP_rot e3⟩
    go_upto_region 10 with ((go_at_call 18; (with_reducible refine (back_at _ _ c n L ?_ HX.out.1 hc HX.out.2.2).mono ?_); (focus ((exact HI.out.below (by repeat (first | assumption | exact Below.refl _ _ | (refine below_chain ?_ (by assumption) (by first | omega | (simp <;> omega) | simp)) | (refine Below.alloc ?_ (by first | omega | (simp <;> omega) | simp) _) | (apply below_drewN) | (apply below_drew) | (refine Below.setCell ?_ (by first | omega | (simp <;> omega) | simp) _)))); done)); rintro e wb ⟨g1, c1, rfl, hg1, ho1, hb_wb⟩; have hs_wb := hb_wb.size; (try simp at hs_wb)))
    have H1 := Lib.hid (And.intro ho1 (own_cap ho1))
    have hl1 := ho1.lt
    clear ho1
    go_upto_region 11 with ((go_at_call 19; (with_reducible refine (area_at _ _ c1 n (backL L) (-A) ?_ HN.out.1 H1.out.2 HN.out.2.2.1 HN.out.2.1).mono ?_); (focus ((exact H1.out.1.pts); done)); rintro e wx ⟨rfl, hb_wx⟩; have hs_wx := hb_wx.size; (try simp at hs_wx)))
    have hBx : B < wx.heap.size := by omega
    go_upto_region 12 with (first | ((go_at_call 20; (with_reducible refine (begun_is _ B o n c M L ?_ (Lib.hid HX.out.1) hmod hc h12).mono ?_); (focus ((exact HI.out.below (by repeat (first | assumption | exact Below.refl _ _ | (refine below_chain ?_ (by assumption) (by first | omega | (simp <;> omega) | simp)) | (refine Below.alloc ?_ (by first | omega | (simp <;> omega) | simp) _) | (apply below_drewN) | (apply below_drew) | (refine Below.setCell ?_ (by first | omega | (simp <;> omega) | simp) _)))); done)); rintro e wy ⟨g2, c2, rfl, hg2, ho2, hb_wy⟩; have hs_wy := hb_wy.size; (try simp at hs_wy)); have H2 := Lib.hid (And.intro ho2 (own_cap ho2)); clear ho2) | (go_at_call 19; (with_reducible refine (area_at _ _ c2 n (begL L M) A ?_ HN.out.2.2.2.1 H2.out.2 HN.out.2.2.2.2.2.1 HN.out.2.2.2.2.1).mono ?_); (focus ((exact H2.out.1.pts); done)); rintro e wz ⟨rfl, hb_wz⟩; have hs_wz := hb_wz.size; (try simp at hs_wz)))
    go_upto_region 13 with (first | ((go_at_call 21; (with_reducible refine (turned_is _ B o n c L ?_ (Lib.hid HX.out.1) (Lib.hid HX.out.2.2) h12 (by omega)).mono ?_); (focus ((exact HI.out.below (by repeat (first | assumption | exact Below.refl _ _ | (refine below_chain ?_ (by assumption) (by first | omega | (simp <;> omega) | simp)) | (refine Below.alloc ?_ (by first | omega | (simp <;> omega) | simp) _) | (apply below_drewN) | (apply below_drew) | (refine Below.setCell ?_ (by first | omega | (simp <;> omega) | simp) _)))); done)); rintro e wu ⟨g3, c3, rfl, hg3, ho3, hb_wu⟩; have hs_wu := hb_wu.size; (try simp at hs_wu)); have H3 := Lib.hid (And.intro ho3 (own_cap ho3)); clear ho3) | (go_at_call 19; (with_reducible refine (area_at _ _ c3 n (rotL L) A ?_ HN.out.2.2.2.2.2.2.1 H3.out.2 HN.out.2.2.2.2.2.2.2.2 HN.out.2.2.2.2.2.2.2.1).mono ?_); (focus ((exact H3.out.1.pts); done)); rintro e wv ⟨rfl, hb_wv⟩; have hs_wv := hb_wv.size; (try simp at hs_wv)))
    have HB : Hid (Below w.heap.size w wv ∧ Ints wv (some ⟨B, o, none⟩) (fl L)) := Lib.hid ⟨(by repeat (first | assumption | exact Below.refl _ _ | (refine below_chain ?_ (by assumption) (by first | omega | (simp <;> omega) | simp)) | (refine Below.alloc ?_ (by first | omega | (simp <;> omega) | simp) _) | (apply below_drewN) | (apply below_drew) | (refine Below.setCell ?_ (by first | omega | (simp <;> omega) | simp) _))), HI.out.below (by repeat (first | assumption | exact Below.refl _ _ | (refine below_chain ?_ (by assumption) (by first | omega | (simp <;> omega) | simp)) | (refine Below.alloc ?_ (by first | omega | (simp <;> omega) | simp) _) | (apply below_drewN) | (apply below_drew) | (refine Below.setCell ?_ (by first | omega | (simp <;> omega) | simp) _)))⟩
    have hBv : B < wv.heap.size := by omega
    have hwv : w.heap.size ≤ wv.heap.size := by omega
    clear hb_wd hb_wi hb_ws hb_wb hb_wx hb_wy hb_wz hb_wu hb_wv HI H1 H2 H3 hs_wi hs_ws hs_wb hs_wx hs_wy hs_wz hs_wu hs_wv hg1 hg2 hg3 hl1
    go_wp2_with fail
    go_loopw [19, 20] (fun s i wr => ∃ j : Nat, 1 ≤ j ∧ j + 1 ≤ n ∧ i = .int .i64 j ∧ s = .int .i64 (fanA L j) ∧ Below wv.heap.size wv wr) (fun _ i _ => n - (intOf i).toNat)
    case atStart => exact ⟨1, Nat.le_refl _, by omega, rfl, by rw [fan_one], Below.refl _ _⟩
    case round =>
      obtain ⟨j, hj1, hjn, rfl, rfl, hb⟩ := hrel
      have hsz := hb.size
      have HR := Lib.hid hb
      have hfb := fan_bd HX.out.2.2 j (by omega)
      by_cases hlt : j + 1 < n
      · have hI2 := HB.out.2.below (hb.mono (Nat.le_refl _))
        have hLn := HX.out.1
        obtain ⟨B0, o0, e0, -, x0, x1⟩ := hI2.pt (i := 0) (by omega)
        obtain ⟨B1, o1, e1, -, y0, y1⟩ := hI2.pt (i := j) (by omega)
        obtain ⟨B2, o2, e2, -, z0, z1⟩ := hI2.pt (i := j + 1) (by omega)
        simp only [Option.some.injEq, Addr.mk.injEq] at e0 e1 e2
        obtain ⟨rfl, rfl, -⟩ := e0
        obtain ⟨rfl, rfl, -⟩ := e1
        obtain ⟨rfl, rfl, -⟩ := e2
        rw [Nat.zero_mul, Nat.add_zero] at x0 x1
        have hfn := fan_next (L := L) j
        have hfb' := fan_bd HX.out.2.2 (j + 1) (by omega)
        have hok3 := okP_tri HX.out.2.2 0 j (j + 1)
        obtain ⟨a, ha⟩ : ∃ a, cy L 0 = a := ⟨_, rfl⟩
        obtain ⟨b, hbb⟩ : ∃ a, cy L j = a := ⟨_, rfl⟩
        obtain ⟨d, hd⟩ : ∃ a, cy L (j + 1) = a := ⟨_, rfl⟩
        rw [ha, hbb, hd] at hfn hok3
        rw [ha] at x0 x1
        rw [hbb] at y0 y1
        rw [hd] at z0 z1
        obtain ⟨T, hT⟩ : ∃ T, areaL [a, b, d] = T := ⟨_, rfl⟩
        rw [hT] at hfn
        obtain ⟨F, hF⟩ : ∃ F, fanA L j = F := ⟨_, rfl⟩
        rw [hF] at hfn hfb ⊢
        have HK := Lib.hid (And.intro hok3 (And.intro hT hfn))
        have hTb : -2600000000 ≤ F + T ∧ F + T ≤ 2600000000 := by omega
        clear hb hI2 hLn ha hbb hd hok3 hT hF hfn hfb'
        have hwj : IntKind.i64.wrap ((j : Int) + 1) = ((j + 1 : Nat) : Int) := by rw [IntKind.wrap_i64]; omega
        have hjlt : j < n := by omega
        have hn0 : 0 < n := by omega
        have hj1' : (j : Int) + 1 < (n : Int) := by omega
        have hj0' : (0 : Int) ≤ (j : Int) + 1 := by omega
        go_upto_region 17 with fail
        go_region_held3 (fun W => W.cell? ⟨B, o, none⟩ = some (.int .i64 a.1) ∧ W.cell? ⟨B, o + 1, none⟩ = some (.int .i64 a.2) ∧ W.cell? ⟨B, o + j * 2, none⟩ = some (.int .i64 b.1) ∧ W.cell? ⟨B, o + j * 2 + 1, none⟩ = some (.int .i64 b.2) ∧ W.cell? ⟨B, o + (j + 1) * 2, none⟩ = some (.int .i64 d.1) ∧ W.cell? ⟨B, o + (j + 1) * 2 + 1, none⟩ = some (.int .i64 d.2))
          (first | (go_keep; done) | (refine ⟨?_, ?_, ?_, ?_, ?_, ?_⟩ <;> ((with_reducible refine cell_below_keep (by with_reducible assumption) ?_); with_reducible assumption)))
          ((go_at_call 19; (with_reducible refine (area_at _ (some ⟨wr.heap.size, 0, none⟩) 3 3 [a, b, d] T ?_ rfl (Nat.le_refl _) HK.out.1 HK.out.2.1).mono ?_); (focus (exact tri_pts _ _ _ _)); rintro e w1 ⟨rfl, hb_w1⟩; have hV1 : Below wr.heap.size wr w1 := (below_drew ((Below.refl _ _).alloc (Nat.le_refl _) _)).trans (hb_w1.mono (by simp))))
        all_goals clear x0 x1 y0 y1 z0 z1 hb_w1 hwj
        all_goals go_wp2_with fail
        all_goals go_roundw
        all_goals first
          | exact ⟨⟨j + 1, by omega, by omega, by go_num, by rw [HK.out.2.2], HR.out.trans (hV1.mono hsz)⟩, by simp [intOf]; omega⟩
          | exact ⟨j + 1, by omega, by omega, by go_num, by rw [HK.out.2.2], HR.out.trans (hV1.mono hsz)⟩
          | (simp [intOf]; omega)
          | trace_state
      · have e : j = n - 1 := by omega
        have hfan : fanA L j = A := by rw [e, ← HX.out.1, fan_all (by have := HX.out.1; omega)]; exact HX.out.2.1
        rw [hfan]
        have hge : ¬ ((j : Int) + 1 < (n : Int)) := by omega
        clear hb
        go_wp2_with fail
        go_ret
        exact ⟨rfl, HB.out.1.trans (HR.out.mono hwv)⟩

set_option maxRecDepth 100000 in
theorem walk_long (len cap : Nat) (p : Option Addr) (len1 cap1 : Nat) (p1 : Option Addr) (w : World) (hl : 1048576 < len ∨ 1048576 < len1) :
    Calls Try.prog 4 #[.slice p len cap, .slice p1 len1 cap1] w fun e w' => e = .returned (.bool true) ∧ Below w.heap.size w w' := by
  by_cases h0 : (1048576 : Int) < (len : Int)
  · go_enter Try.func4, Try.ntmps4
    go_wp2
    go_ret
    exact ⟨rfl, Below.refl _ _⟩
  · have hl' : (1048576 : Int) < (len1 : Int) := by omega
    clear hl
    go_enter Try.func4, Try.ntmps4
    go_wp2
    go_ret
    exact ⟨rfl, Below.refl _ _⟩

set_option maxRecDepth 100000 in
theorem lifted (os : Os) (started : os.Started) (H : Type) (enc : TypeId × Value → H) :
    ReturnsInHanded {} Try.checked os 4 .any (Rows.fnPolyAreaSpec.pre6 enc Try.prog Try.f4 Rows.fnPolyAreaRow.domain false) (Rows.fnPolyAreaSpec.post enc Try.prog Try.f4 false true false false) := by
  refine returnsInHanded_of_change (C := Try.checked) own started (by kernel_rfl) Try.func4
    (ChangeSpec.witness6 (enc := enc) (C := Try.checked) false ⟨#[], #[.slice none 0 0, .slice none 0 0], []⟩ 8 (by kernel_rfl) (by kernel_rfl) (by kernel_rfl) (by kernel_rfl)) ?_
  intro W base args ds gs before hval0 hW hcnd _
  have hval : ∀ (j : Nat) t v, Try.f4.params[j]? = some t → args[j]? = some v → Value.okWide Try.prog W .any base t v := hval0
  have hW' := hW
  obtain ⟨p, q, hA0, hV, rfl, hfz, hnd⟩ := hW
  have hA : DataW.TrodAll enc Try.prog W 0 (fun _ => true) true Try.f4.params.toList args.toList ds p := hA0
  rw [Try.params4] at hA hval
  obtain ⟨v0, vs0, d0, ds0, p0, q0, hargs, rfl, rfl, h0, r0⟩ := trodAll_cons hA
  obtain ⟨v1, vs1, d1, ds1, p1, q1, rfl, rfl, rfl, h1, r1⟩ := trodAll_cons r0
  obtain ⟨rfl, rfl, rfl⟩ := trodAll_nil r1
  obtain rfl : args = #[v0, v1] := by cases args; simp_all
  obtain ⟨rfl, rfl⟩ := trodVars_none hV
  obtain ⟨a0, len0, cap0, rfl⟩ := okWide_slice Try.underlying22 (hval 0 22 v0 rfl rfl)
  have k0 := h0
  have lt0 : ∀ x ∈ p0, x.block < W.heap.size := by obtain ⟨m, hm⟩ := k0; exact DataW.trod_lt m _ _ _ hm
  obtain ⟨z0, w0⟩ : ∃ zs, IsRow .u8 W a0 len0 cap0 zs := by
    obtain ⟨fuel, hf⟩ := h0
    rcases open_ints Try.underlying22 Try.underlying5 (by kernel_rfl) hf with ⟨hcs, _⟩ | ⟨x, l, c, zs, hcs, _, hl, hm, hz, _, hcell, hwz⟩
    · simp [Value.cells] at hcs
      obtain ⟨rfl, rfl, rfl⟩ := hcs
      exact ⟨[], .inl ⟨rfl, rfl, rfl, rfl⟩⟩
    · simp [Value.cells] at hcs
      obtain ⟨rfl, rfl, rfl⟩ := hcs
      exact ⟨zs, .inr ⟨_, rfl, hl, hm, by simpa using hz, hcell, hwz⟩⟩
  obtain ⟨a1, len1, cap1, rfl⟩ := okWide_slice Try.underlying22 (hval 1 22 v1 rfl rfl)
  have k1 := h1
  have lt1 : ∀ x ∈ p1, x.block < W.heap.size := by obtain ⟨m, hm⟩ := k1; exact DataW.trod_lt m _ _ _ hm
  obtain ⟨z1, w1⟩ : ∃ zs, IsRow .u8 W a1 len1 cap1 zs := by
    obtain ⟨fuel, hf⟩ := h1
    rcases open_ints Try.underlying22 Try.underlying5 (by kernel_rfl) hf with ⟨hcs, _⟩ | ⟨x, l, c, zs, hcs, _, hl, hm, hz, _, hcell, hwz⟩
    · simp [Value.cells] at hcs
      obtain ⟨rfl, rfl, rfl⟩ := hcs
      exact ⟨[], .inl ⟨rfl, rfl, rfl, rfl⟩⟩
    · simp [Value.cells] at hcs
      obtain ⟨rfl, rfl, rfl⟩ := hcs
      exact ⟨zs, .inr ⟨_, rfl, hl, hm, by simpa using hz, hcell, hwz⟩⟩
  clear hA0 hval0
  have hw : Calls Try.prog 4 #[.slice a0 len0 cap0, .slice a1 len1 cap1] W fun e w' => e = .returned (.bool true) ∧ Below W.heap.size W w' := by
    by_cases hl : len0 ≤ 1048576
    · by_cases hm : len1 ≤ 1048576
      · exact walk len0 cap0 a0 len1 cap1 a1 W hl hm (Lib.hid (code_of_row w0 hl)) (Lib.hid (code_of_row w1 hm))
      · exact walk_long len0 cap0 a0 len1 cap1 a1 W (by omega)
    · exact walk_long len0 cap0 a0 len1 cap1 a1 W (by omega)
  refine hw.mono fun e W' ⟨he, bel⟩ => ?_
  subst he
  exact ⟨_, rfl, _, _, _, [], _, [], hW', trodAll_mk1 (shut_bool Try.underlying4 _), (trodAll_cons_mk (Below.trod laidOut (by kernel_rfl) (of_decide_eq_true (by kernel_rfl)) k0 bel lt0) (trodAll_cons_mk (Below.trod laidOut (by kernel_rfl) (of_decide_eq_true (by kernel_rfl)) k1 bel lt1) trodAll_mk0)), rfl, bel.frame _, fun h => by cases h⟩

theorem over : Rows.fnPolyAreaRow.holds Try.pinned (OpenSpec.ofChange Rows.fnPolyAreaSpec) :=
  OpenClaim.holds_of_wide 4 Try.f4 rfl rfl rfl rfl rfl rfl rfl ⟨rfl, rfl, rfl, rfl, rfl⟩ rfl rfl rfl rfl rfl (by kernel_rfl) Try.func4 (by unfold joinedFacts; rw [seat_enter, seat_lift, seat_make]; kernel_rfl)
    (of_decide_eq_true (by kernel_rfl)) (by unfold Func.isWrapper; first | (rw [if_pos (by decide +kernel)]; kernel_rfl) | (rw [if_neg (by decide +kernel)]; exact ⟨rfl, rfl⟩))
    (fun os started H enc _ => lifted os started H enc)

theorem proved : Rows.FnPolyAreaSaid := over
end Go.Proofs.Ythecapioagogbaa.fnPolyArea

