/-
  For every two codes the law FnPolyPlace returns true: impl.PolyPlace answers as the reference model does; the answer is the same for the corners the other way round or begun elsewhere, a corner lies on the polygon, and a point west of all corners lies outside. No condition: every two lists of bytes are taken.
-/
import Derived.Test.YthecapioagogbaaYdh
import Derived.Test.YthecapioagogbaaYdg
import Derived.Test.YthecapioagogbaaYt
import Derived.Test.YthecapioagogbaaYza
import Derived.Test.YthecapioagogbaaCode
namespace Go.Proofs.Ythecapioagogbaa.fnPolyPlace
open Go.ChangeShapes Go.WideShapes Go.ChangeAt Go.RowKit Poly
set_option linter.unusedVariables false

theorem place_at (w : World) (p : Option Addr) (c n : Nat) (L : List P2) (z : P2) (R : Int) (h : Ints w p (fl L)) (hn : L.length = n) (hc : n ≤ c) (hv : polyV L = true) (hz : pvP z = true) (hR : placeL L z = R) :
    Calls Try.prog 28 #[.slice p n c, .agg #[.int .i64 z.1, .int .i64 z.2]] w fun e w' => e = .returned (.tuple #[.int .i64 R, .bool true]) ∧ Below w.heap.size w w' := by
  subst hn hR
  exact iPolyPlace_yes h hc z hv hz
theorem placeS_at (w : World) (p : Option Addr) (c n : Nat) (L : List P2) (z : P2) (R : Int) (h : Ints w p (fl L)) (hn : L.length = n) (h12 : n ≤ 12) (hv : polyV L = true) (hz : pvP z = true) (hR : placeL L z = R) :
    Calls Try.prog 30 #[.slice p n c, .agg #[.int .i64 z.1, .int .i64 z.2]] w fun e w' => e = .returned (.tuple #[.int .i64 R, .bool true]) ∧ Below w.heap.size w w' := by
  subst hn hR
  exact sPolyPlace_yes h (by omega) z hv hz
theorem placeNo (w : World) (p : Option Addr) (c : Nat) (L : List P2) (z : P2) (h : Ints w p (fl L)) (hc : L.length ≤ c) (h12 : L.length ≤ 12) (hv : polyV L = false ∨ pvP z = false) :
    Calls Try.prog 28 #[.slice p L.length c, .agg #[.int .i64 z.1, .int .i64 z.2]] w fun e w' => e = .returned (.tuple #[.int .i64 0, .bool false]) ∧ Below w.heap.size w w' := by
  cases hV : polyV L
  · exact iPolyPlace_no h hc (by omega) z hV
  · exact iPolyPlace_off h hc z hV (by rcases hv with e | e; rw [hV] at e; cases e; exact e)
theorem placeSNo (w : World) (p : Option Addr) (c : Nat) (L : List P2) (z : P2) (h : Ints w p (fl L)) (h12 : L.length ≤ 12) (hv : polyV L = false ∨ pvP z = false) :
    Calls Try.prog 30 #[.slice p L.length c, .agg #[.int .i64 z.1, .int .i64 z.2]] w fun e w' => e = .returned (.tuple #[.int .i64 0, .bool false]) ∧ Below w.heap.size w w' := by
  cases hV : polyV L
  · exact sPolyPlace_no h (by omega) z hV
  · exact sPolyPlace_off h (by omega) z hV (by rcases hv with e | e; rw [hV] at e; cases e; exact e)
theorem back_at2 (w : World) (p : Option Addr) (c n : Nat) (L : List P2) (h : Ints w p (fl L)) (hn : L.length = n) (hc : n ≤ c) (hok : okP L = true) :
    Calls Try.prog 18 #[.slice p n c] w fun e w' => ∃ g cap : Nat, e = .returned (.tuple #[.slice (some ⟨g, 0, none⟩) n cap, .bool true]) ∧ w.heap.size ≤ g ∧ Own w' g 31 2 n cap (fl (backL L)) ∧ Below w.heap.size w w' := by
  subst hn
  exact iPolyBack_yes h hc hok
theorem own_cap2 {w : World} {g : Nat} {T : TypeId} {sz n cap : Nat} {xs : List Int} (h : Own w g T sz n cap xs) : n ≤ cap := by obtain ⟨_, _, h1, _⟩ := h.body; exact h1
/-- a point in a block -/
def At (W : World) (X : Nat) (z : P2) : Prop := X < W.heap.size ∧ W.cell? ⟨X, 0, none⟩ = some (.int .i64 z.1) ∧ W.cell? ⟨X, 1, none⟩ = some (.int .i64 z.2)
theorem At.below {W W' : World} {X : Nat} {z : P2} (h : At W X z) (hb : Below W.heap.size W W') : At W' X z :=
  ⟨Nat.lt_of_lt_of_le h.1 hb.size, (hb.cell (p := ⟨X, 0, none⟩) h.1).trans h.2.1, (hb.cell (p := ⟨X, 1, none⟩) h.1).trans h.2.2⟩
theorem At.dr {W : World} {X : Nat} {z : P2} (h : At W X z) : At W.drew X z := h

set_option maxHeartbeats 8000000 in
set_option maxRecDepth 100000 in
theorem walk (len cap : Nat) (p : Option Addr) (len2 cap2 : Nat) (p2 : Option Addr) (w : World) (hl : len ≤ 1048576) (hl2 : len2 ≤ 1048576) (h : Hid (Code' w (.slice p len cap))) (h2 : Hid (Code' w (.slice p2 len2 cap2))) :
    Calls Try.prog 6 #[.slice p len cap, .slice p2 len2 cap2] w fun e w' => e = .returned (.bool true) ∧ Below w.heap.size w w' := by
  have hl' : ¬ (1048576 : Int) < (len : Int) := by omega
  have hl2' : ¬ (1048576 : Int) < (len2 : Int) := by omega
  clear h2
  go_enter Try.func6, Try.ntmps6
  go_upto_region 4 with (go_at_call 29; (with_reducible refine (drawPolyPlace_is _ _ h).mono ?_); rintro e wd ⟨L, q, c, z, rfl, hc, h12, hI, hb_wd⟩; have hs_wd := hb_wd.size)
  clear h
  obtain ⟨X, hX⟩ : ∃ X, X = wd.heap.size := ⟨_, rfl⟩
  have hA0 : At (wd.alloc (.cells #[.int .i64 z.1, .int .i64 z.2] 31)) X z := by
    rw [hX]
    exact ⟨by simp, World.cell?_alloc_new _ _ _ 0, World.cell?_alloc_new _ _ _ 1⟩
  rw [← hX]
  refine gen_world (fun W => At W X z ∧ Ints W q (fl L) ∧ Below w.heap.size w W) ⟨hA0, hI.below ((Below.refl _ _).alloc (Nat.le_refl _) _), hb_wd.alloc hs_wd _⟩ (fun we hp => ?_)
  have HE := Lib.hid hp
  have hswe := hp.2.2.size
  have k0 := hp.1.2.1
  have k1 := hp.1.2.2
  have hIq := hp.2.1
  clear hp hA0 hX hI hb_wd hs_wd
  by_cases hv : polyV L = true ∧ pvP z = true
  · obtain ⟨hV, hz⟩ := hv
    have hok := (polyV_parts hV).1
    have hl3 := (okP_len hok).1
    obtain ⟨B, o, rfl, hBw, -, -⟩ := hIq.pt (i := 0) (by omega)
    obtain ⟨n, hn⟩ : ∃ n, L.length = n := ⟨_, rfl⟩
    obtain ⟨A, hA⟩ : ∃ A, placeL L z = A := ⟨_, rfl⟩
    have hmod : len2 % n < n := Nat.mod_lt _ (by omega)
    obtain ⟨M, hM⟩ : ∃ M, len2 % n = M := ⟨_, rfl⟩
    rw [hM] at hmod
    have hMi : (len2 : Int) % (n : Int) = (M : Int) := by rw [← hM, Int.natCast_emod]
    have hN0 : ¬ n = 0 := by omega
    have hN0' : ¬ (n : Int) = 0 := by omega
    have hzb := pvP_true hz
    have hzf : pvP ((-10000 : Int), z.2) = true := by unfold pvP; exact Pt.pv_in (by simp) (by simp) hzb.2.2.1 hzb.2.2.2
    have HN : Hid ((backL L).length = n ∧ polyV (backL L) = true ∧ placeL (backL L) z = A ∧ (begL L M).length = n ∧ polyV (begL L M) = true ∧ placeL (begL L M) z = A ∧ placeL L (cy L M) = 0 ∧ pvP (cy L M) = true) :=
      Lib.hid ⟨by rw [back_len2]; exact hn, polyV_back hV, by rw [place_back (by omega)]; exact hA, by rw [beg_len (by omega)]; exact hn, polyV_beg hV (by omega), by rw [place_beg (by omega)]; exact hA, place_corner (by omega), okP_at hok M⟩
    rw [hn] at hc h12 hl3 ⊢
    have HX := Lib.hid (And.intro hn (And.intro hA (And.intro hok (And.intro hV (And.intro hz hzf)))))
    clear hIq hn hA hok hV hz hzf hM hzb
    go_upto_region 9 with (first | ((go_at_call 28; (with_reducible refine (place_at _ _ c n L z A ?_ HX.out.1 hc HX.out.2.2.2.1 HX.out.2.2.2.2.1 HX.out.2.1).mono ?_); (focus ((exact HE.out.2.1); done)); rintro e wi ⟨rfl, hb_wi⟩; have hs_wi := hb_wi.size; (try simp at hs_wi)); have hAi := HE.out.1.below hb_wi; have k0 := hAi.2.1; have k1 := hAi.2.2) | ((go_at_call 30; (with_reducible refine (placeS_at _ _ c n L z A ?_ HX.out.1 h12 HX.out.2.2.2.1 HX.out.2.2.2.2.1 HX.out.2.1).mono ?_); (focus ((exact HE.out.2.1.below (by repeat (first | assumption | exact Below.refl _ _ | (refine below_chain ?_ (by assumption) (by first | omega | (simp <;> omega) | simp)) | (refine Below.alloc ?_ (by first | omega | (simp <;> omega) | simp) _) | (apply below_drewN) | (apply below_drew) | (refine Below.setCell ?_ (by first | omega | (simp <;> omega) | simp) _)))); done)); rintro e ws ⟨rfl, hb_ws⟩; have hs_ws := hb_ws.size; (try simp at hs_ws)); have hAs := hAi.below hb_ws))
    rw [hMi]
    go_upto_region 10 with ((go_at_call 18; (with_reducible refine (back_at2 _ _ c n L ?_ HX.out.1 hc HX.out.2.2.1).mono ?_); (focus ((exact HE.out.2.1.below (by repeat (first | assumption | exact Below.refl _ _ | (refine below_chain ?_ (by assumption) (by first | omega | (simp <;> omega) | simp)) | (refine Below.alloc ?_ (by first | omega | (simp <;> omega) | simp) _) | (apply below_drewN) | (apply below_drew) | (refine Below.setCell ?_ (by first | omega | (simp <;> omega) | simp) _)))); done)); rintro e wb ⟨g1, c1, rfl, hg1, ho1, hb_wb⟩; have hs_wb := hb_wb.size; (try simp at hs_wb)))
    have H1 := Lib.hid (And.intro ho1 (own_cap2 ho1))
    have hl1 := ho1.lt
    clear ho1 k0 k1
    have hAb := hAs.below hb_wb
    have k0 := hAb.2.1
    have k1 := hAb.2.2
    go_upto_region 11 with ((go_at_call 28; (with_reducible refine (place_at _ _ c1 n (backL L) z A ?_ HN.out.1 H1.out.2 HN.out.2.1 HX.out.2.2.2.2.1 HN.out.2.2.1).mono ?_); (focus ((exact H1.out.1.pts); done)); rintro e wx ⟨rfl, hb_wx⟩; have hs_wx := hb_wx.size; (try simp at hs_wx)))
    have hBx : B < wx.heap.size := by omega
    have HIx : Hid (Ints wx (some ⟨B, o, none⟩) (fl L) ∧ Below w.heap.size w wx) := Lib.hid ⟨HE.out.2.1.below (by repeat (first | assumption | exact Below.refl _ _ | (refine below_chain ?_ (by assumption) (by first | omega | (simp <;> omega) | simp)) | (refine Below.alloc ?_ (by first | omega | (simp <;> omega) | simp) _) | (apply below_drewN) | (apply below_drew) | (refine Below.setCell ?_ (by first | omega | (simp <;> omega) | simp) _))), HE.out.2.2.trans (by repeat (first | assumption | exact Below.refl _ _ | (refine below_chain ?_ (by assumption) (by first | omega | (simp <;> omega) | simp)) | (refine Below.alloc ?_ (by first | omega | (simp <;> omega) | simp) _) | (apply below_drewN) | (apply below_drew) | (refine Below.setCell ?_ (by first | omega | (simp <;> omega) | simp) _)))⟩
    have hAx := hAb.below hb_wx
    clear k0 k1 H1 hl1 hg1 hb_wi hb_ws hb_wb hb_wx hs_wi hs_ws hs_wb hAi hAs hAb
    have k0 := hAx.2.1
    have k1 := hAx.2.2
    have hwwx := HIx.out.2.size
    go_region_held3 (fun W => W.cell? ⟨X, 0, none⟩ = some (.int .i64 z.1) ∧ W.cell? ⟨X, 1, none⟩ = some (.int .i64 z.2)) (first | (go_keep; done) | exact ⟨hAz.2.1, hAz.2.2⟩ | exact ⟨hAy.2.1, hAy.2.2⟩)
      (first | (go_at_call 20; (with_reducible refine (begun_is _ B o n c M L ?_ (Lib.hid HX.out.1) hmod hc h12).mono ?_); (focus (exact HIx.out.1)); rintro e wy ⟨g2, c2, rfl, hg2, ho2, hb_wy⟩; have H2 := Lib.hid (And.intro ho2 (own_cap2 ho2)); have hs_wy := hb_wy.size; have hAy : At wy X z := (by first | exact hAx.below hb_wy | exact hAx.dr.below hb_wy | exact hAx.dr.dr.below hb_wy)) | (go_at_call 28; (with_reducible refine (place_at _ _ c2 n (begL L M) z A ?_ HN.out.2.2.2.1 H2.out.2 HN.out.2.2.2.2.1 HX.out.2.2.2.2.1 HN.out.2.2.2.2.2.1).mono ?_); (focus (exact H2.out.1.pts)); rintro e wz ⟨rfl, hb_wz⟩; have hs_wz := hb_wz.size; have hAz : At wz X z := (by first | exact hAy.below hb_wz | exact hAy.dr.below hb_wz | exact hAy.dr.dr.below hb_wz)))
    have hbz : Below wx.heap.size wx wz := Below.trans (show Below wx.heap.size wx wy from ⟨hb_wy.os, hb_wy.tape, hb_wy.output, hb_wy.size, hb_wy.block⟩) (hb_wz.mono hs_wy)
    have HIz : Hid (Ints wz (some ⟨B, o, none⟩) (fl L) ∧ Below w.heap.size w wz) := Lib.hid ⟨HIx.out.1.below hbz, HIx.out.2.trans (hbz.mono hwwx)⟩
    have hwwz := HIz.out.2.size
    have hLn := HX.out.1
    obtain ⟨B0, o0, e0, hBz, x0, x1⟩ := HIz.out.1.pt (i := M) (by omega)
    simp only [Option.some.injEq, Addr.mk.injEq] at e0
    obtain ⟨rfl, rfl, -⟩ := e0
    obtain ⟨u, hu⟩ : ∃ u, cy L M = u := ⟨_, rfl⟩
    rw [hu] at x0 x1 HN
    clear k0 k1 hbz hb_wz hb_wy hs_wy hs_wz ho2 H2 hg2 HIx hLn hu hAx hAy hs_wx hBx hwwx
    go_upto_region 13 with ((go_at_call 28; (with_reducible refine (place_at _ _ c n L u 0 ?_ HX.out.1 hc HX.out.2.2.2.1 HN.out.2.2.2.2.2.2.2 HN.out.2.2.2.2.2.2.1).mono ?_); (focus ((exact HIz.out.1); done)); rintro e wu ⟨rfl, hb_wu⟩; have hs_wu := hb_wu.size; (try simp at hs_wu)))
    have hAu := hAz.below hb_wu
    have k1 := hAu.2.2
    have HIu : Hid (Ints wu (some ⟨B, o, none⟩) (fl L) ∧ Below w.heap.size w wu) := Lib.hid ⟨HIz.out.1.below hb_wu, HIz.out.2.trans (hb_wu.mono hwwz)⟩
    have hwwu := HIu.out.2.size
    clear x0 x1 hb_wu hs_wu HIz hAz hwwz hBz
    go_upto_region 14 with fail
    obtain ⟨Y, hY⟩ : ∃ Y, Y = wu.heap.size := ⟨_, rfl⟩
    have hF0 : At (wu.alloc (.cells #[.int .i64 (-10000), .int .i64 z.2] 31)) Y ((-10000 : Int), z.2) := by
      rw [hY]
      exact ⟨by simp, World.cell?_alloc_new _ _ _ 0, World.cell?_alloc_new _ _ _ 1⟩
    rw [← hY]
    refine gen_world (fun W => At W Y ((-10000 : Int), z.2) ∧ Ints W (some ⟨B, o, none⟩) (fl L) ∧ Below w.heap.size w W) ⟨hF0, HIu.out.1.below ((Below.refl _ _).alloc (Nat.le_refl _) _), HIu.out.2.alloc hwwu _⟩ (fun wf hp => ?_)
    have HF := Lib.hid hp
    have hswf := hp.2.2.size
    have k0 : wf.cell? ⟨Y, 0, none⟩ = some (.int .i64 (-10000)) := hp.1.2.1
    have k1 : wf.cell? ⟨Y, 1, none⟩ = some (.int .i64 z.2) := hp.1.2.2
    obtain ⟨D, hD⟩ : ∃ D, placeL L ((-10000 : Int), z.2) = D := ⟨_, rfl⟩
    have HD := Lib.hid hD
    have hwest := Lib.hid (show (∀ i, i < n → -10000 < (cy L i).1) → D = -1 from fun h => by
      rw [← hD]
      exact place_west (by rw [HX.out.1]; omega) (fun i hi => h i (by rw [← HX.out.1]; exact hi)))
    clear hp hF0 hY HIu hwwu hAu hD
    go_upto_region 15 with ((go_at_call 28; (with_reducible refine (place_at _ _ c n L ((-10000 : Int), z.2) D ?_ HX.out.1 hc HX.out.2.2.2.1 HX.out.2.2.2.2.2 HD.out).mono ?_); (focus ((exact HF.out.2.1); done)); rintro e wg ⟨rfl, hb_wg⟩; have hs_wg := hb_wg.size; (try simp at hs_wg)))
    have HG : Hid (At wg Y ((-10000 : Int), z.2) ∧ Ints wg (some ⟨B, o, none⟩) (fl L) ∧ Below w.heap.size w wg) := Lib.hid ⟨HF.out.1.below hb_wg, HF.out.2.1.below hb_wg, HF.out.2.2.trans (hb_wg.mono hswf)⟩
    have hswg := HG.out.2.2.size
    clear k0 k1 hb_wg hs_wg HF HD hswf
    go_wp2_with fail
    go_loopw [23, 24] (fun s i wr => ∃ (j : Nat) (b : Bool), j ≤ n ∧ i = .int .i64 j ∧ s = .bool b ∧ (b = true → ∀ i, i < j → -10000 < (cy L i).1) ∧ Below wg.heap.size wg wr) (fun _ i _ => n - (intOf i).toNat)
    case atStart => exact ⟨0, true, Nat.zero_le _, rfl, rfl, fun _ i hi => absurd hi (Nat.not_lt_zero _), Below.refl _ _⟩
    case round =>
      obtain ⟨j, b, hj, rfl, rfl, hall, hb⟩ := hrel
      have hsz := hb.size
      have HB := Lib.hid (And.intro hall hb)
      by_cases hlt : j < n
      · have hLn := HX.out.1
        obtain ⟨B0, o0, e0, -, x0, x1⟩ := (HG.out.2.1.below hb).pt (i := j) (by omega)
        simp only [Option.some.injEq, Addr.mk.injEq] at e0
        obtain ⟨rfl, rfl, -⟩ := e0
        have hAr := HG.out.1.below hb
        have k0 : wr.cell? ⟨Y, 0, none⟩ = some (.int .i64 (-10000)) := hAr.2.1
        obtain ⟨u, hu⟩ : ∃ u, (cy L j).1 = u := ⟨_, rfl⟩
        rw [hu] at x0
        have HU := Lib.hid hu
        clear hall hb hLn x1 hAr hu
        have hjlt : (j : Int) < (n : Int) := by omega
        have hn0 : 0 < n := by omega
        cases b
        · go_upto_region 19 with fail
          go_quiet (fail)
          clear x0 k0
          go_wp2_with fail
          go_roundw
          case rel => exact ⟨j + 1, false, by omega, by go_num, rfl, fun h => (by cases h), below_drewN HB.out.2 _⟩
          case measure => simp [intOf]; omega
        · go_upto_region 19 with fail
          go_region_held3 (fun W => W.cell? ⟨B, o + j * 2, none⟩ = some (.int .i64 u) ∧ W.cell? ⟨Y, 0, none⟩ = some (.int .i64 (-10000))) (go_keep) (fail)
          clear x0 k0
          go_wp2_with fail
          go_roundw
          case rel => exact ⟨j + 1, decide (-10000 < u), by omega, by go_num, rfl, fun h i hi => (by
            by_cases e : i = j
            · rw [e, HU.out]; exact of_decide_eq_true h
            · exact HB.out.1 rfl i (by omega)), below_drew HB.out.2⟩
          case measure => simp [intOf]; omega
      · have e : j = n := by omega
        subst e
        clear hall hb
        cases b
        · go_wp2_with fail
          go_ret
          exact ⟨rfl, HG.out.2.2.trans (HB.out.2.mono hswg)⟩
        · have hDe := hwest.out (HB.out.1 rfl)
          rw [hDe]
          go_wp2_with fail
          go_ret
          exact ⟨rfl, HG.out.2.2.trans (HB.out.2.mono hswg)⟩
  · have hno : polyV L = false ∨ pvP z = false := by
      cases hV : polyV L
      · exact .inl rfl
      · cases hz : pvP z
        · exact .inr rfl
        · exact absurd ⟨hV, hz⟩ hv
    clear hv hIq
    go_wp2_with (first | ((go_at_call 28; (with_reducible refine (placeNo _ q c L z ?_ hc h12 hno).mono ?_); (focus ((exact HE.out.2.1); done)); rintro e wi ⟨rfl, hb_wi⟩; have hs_wi := hb_wi.size; (try simp at hs_wi)); have hAi := HE.out.1.below hb_wi; have k0 := hAi.2.1; have k1 := hAi.2.2) | (go_at_call 30; (with_reducible refine (placeSNo _ q c L z ?_ h12 hno).mono ?_); (focus ((exact HE.out.2.1.below (by repeat (first | assumption | exact Below.refl _ _ | (refine below_chain ?_ (by assumption) (by first | omega | (simp <;> omega) | simp)) | (refine Below.alloc ?_ (by first | omega | (simp <;> omega) | simp) _) | (apply below_drewN) | (apply below_drew) | (refine Below.setCell ?_ (by first | omega | (simp <;> omega) | simp) _)))); done)); rintro e ws ⟨rfl, hb_ws⟩; have hs_ws := hb_ws.size; (try simp at hs_ws)))
    go_ret
    exact ⟨rfl, HE.out.2.2.trans (by repeat (first | assumption | exact Below.refl _ _ | (refine below_chain ?_ (by assumption) (by first | omega | (simp <;> omega) | simp)) | (refine Below.alloc ?_ (by first | omega | (simp <;> omega) | simp) _) | (apply below_drewN) | (apply below_drew) | (refine Below.setCell ?_ (by first | omega | (simp <;> omega) | simp) _)))⟩

set_option maxRecDepth 100000 in
theorem walk_long (len cap : Nat) (p : Option Addr) (len1 cap1 : Nat) (p1 : Option Addr) (w : World) (hl : 1048576 < len ∨ 1048576 < len1) :
    Calls Try.prog 6 #[.slice p len cap, .slice p1 len1 cap1] w fun e w' => e = .returned (.bool true) ∧ Below w.heap.size w w' := by
  by_cases h0 : (1048576 : Int) < (len : Int)
  · go_enter Try.func6, Try.ntmps6
    go_wp2
    go_ret
    exact ⟨rfl, Below.refl _ _⟩
  · have hl' : (1048576 : Int) < (len1 : Int) := by omega
    clear hl
    go_enter Try.func6, Try.ntmps6
    go_wp2
    go_ret
    exact ⟨rfl, Below.refl _ _⟩

set_option maxRecDepth 100000 in
theorem lifted (os : Os) (started : os.Started) (H : Type) (enc : TypeId × Value → H) :
    ReturnsInHanded {} Try.checked os 6 .any (Rows.fnPolyPlaceSpec.pre6 enc Try.prog Try.f6 Rows.fnPolyPlaceRow.domain false) (Rows.fnPolyPlaceSpec.post enc Try.prog Try.f6 false true false false) := by
  refine returnsInHanded_of_change (C := Try.checked) own started (by kernel_rfl) Try.func6
    (ChangeSpec.witness6 (enc := enc) (C := Try.checked) false ⟨#[], #[.slice none 0 0, .slice none 0 0], []⟩ 8 (by kernel_rfl) (by kernel_rfl) (by kernel_rfl) (by kernel_rfl)) ?_
  intro W base args ds gs before hval0 hW hcnd _
  have hval : ∀ (j : Nat) t v, Try.f6.params[j]? = some t → args[j]? = some v → Value.okWide Try.prog W .any base t v := hval0
  have hW' := hW
  obtain ⟨p, q, hA0, hV, rfl, hfz, hnd⟩ := hW
  have hA : DataW.TrodAll enc Try.prog W 0 (fun _ => true) true Try.f6.params.toList args.toList ds p := hA0
  rw [Try.params6] at hA hval
  obtain ⟨v0, vs0, d0, ds0, p0, q0, hargs, rfl, rfl, h0, r0⟩ := trodAll_cons hA
  obtain ⟨v1, vs1, d1, ds1, p1, q1, rfl, rfl, rfl, h1, r1⟩ := trodAll_cons r0
  obtain ⟨rfl, rfl, rfl⟩ := trodAll_nil r1
  obtain rfl : args = #[v0, v1] := by cases args; simp_all
  obtain ⟨rfl, rfl⟩ := trodVars_none hV
  obtain ⟨a0, len0, cap0, rfl⟩ := okWide_slice Try.underlying22 (hval 0 22 v0 rfl rfl)
  have k0 := h0
  have lt0 : ∀ x ∈ p0, x.block < W.heap.size := by obtain ⟨m, hm⟩ := k0; exact DataW.trod_lt m _ _ _ hm
  obtain ⟨z0, w0⟩ : ∃ zs, IsRow .u8 W a0 len0 cap0 zs := by
    obtain ⟨fuel, hf⟩ := h0
    rcases open_ints Try.underlying22 Try.underlying5 (by kernel_rfl) hf with ⟨hcs, _⟩ | ⟨x, l, c, zs, hcs, _, hl, hm, hz, _, hcell, hwz⟩
    · simp [Value.cells] at hcs
      obtain ⟨rfl, rfl, rfl⟩ := hcs
      exact ⟨[], .inl ⟨rfl, rfl, rfl, rfl⟩⟩
    · simp [Value.cells] at hcs
      obtain ⟨rfl, rfl, rfl⟩ := hcs
      exact ⟨zs, .inr ⟨_, rfl, hl, hm, by simpa using hz, hcell, hwz⟩⟩
  obtain ⟨a1, len1, cap1, rfl⟩ := okWide_slice Try.underlying22 (hval 1 22 v1 rfl rfl)
  have k1 := h1
  have lt1 : ∀ x ∈ p1, x.block < W.heap.size := by obtain ⟨m, hm⟩ := k1; exact DataW.trod_lt m _ _ _ hm
  obtain ⟨z1, w1⟩ : ∃ zs, IsRow .u8 W a1 len1 cap1 zs := by
    obtain ⟨fuel, hf⟩ := h1
    rcases open_ints Try.underlying22 Try.underlying5 (by kernel_rfl) hf with ⟨hcs, _⟩ | ⟨x, l, c, zs, hcs, _, hl, hm, hz, _, hcell, hwz⟩
    · simp [Value.cells] at hcs
      obtain ⟨rfl, rfl, rfl⟩ := hcs
      exact ⟨[], .inl ⟨rfl, rfl, rfl, rfl⟩⟩
    · simp [Value.cells] at hcs
      obtain ⟨rfl, rfl, rfl⟩ := hcs
      exact ⟨zs, .inr ⟨_, rfl, hl, hm, by simpa using hz, hcell, hwz⟩⟩
  clear hA0 hval0
  have hw : Calls Try.prog 6 #[.slice a0 len0 cap0, .slice a1 len1 cap1] W fun e w' => e = .returned (.bool true) ∧ Below W.heap.size W w' := by
    by_cases hl : len0 ≤ 1048576
    · by_cases hm : len1 ≤ 1048576
      · exact walk len0 cap0 a0 len1 cap1 a1 W hl hm (Lib.hid (code_of_row w0 hl)) (Lib.hid (code_of_row w1 hm))
      · exact walk_long len0 cap0 a0 len1 cap1 a1 W (by omega)
    · exact walk_long len0 cap0 a0 len1 cap1 a1 W (by omega)
  refine hw.mono fun e W' ⟨he, bel⟩ => ?_
  subst he
  exact ⟨_, rfl, _, _, _, [], _, [], hW', trodAll_mk1 (shut_bool Try.underlying4 _), (trodAll_cons_mk (Below.trod laidOut (by kernel_rfl) (of_decide_eq_true (by kernel_rfl)) k0 bel lt0) (trodAll_cons_mk (Below.trod laidOut (by kernel_rfl) (of_decide_eq_true (by kernel_rfl)) k1 bel lt1) trodAll_mk0)), rfl, bel.frame _, fun h => by cases h⟩

theorem over : Rows.fnPolyPlaceRow.holds Try.pinned (OpenSpec.ofChange Rows.fnPolyPlaceSpec) :=
  OpenClaim.holds_of_wide 6 Try.f6 rfl rfl rfl rfl rfl rfl rfl ⟨rfl, rfl, rfl, rfl, rfl⟩ rfl rfl rfl rfl rfl (by kernel_rfl) Try.func6 (by unfold joinedFacts; rw [seat_enter, seat_lift, seat_make]; kernel_rfl)
    (of_decide_eq_true (by kernel_rfl)) (by unfold Func.isWrapper; first | (rw [if_pos (by decide +kernel)]; kernel_rfl) | (rw [if_neg (by decide +kernel)]; exact ⟨rfl, rfl⟩))
    (fun os started H enc _ => lifted os started H enc)

theorem proved : Rows.FnPolyPlaceSaid := over
end Go.Proofs.Ythecapioagogbaa.fnPolyPlace

