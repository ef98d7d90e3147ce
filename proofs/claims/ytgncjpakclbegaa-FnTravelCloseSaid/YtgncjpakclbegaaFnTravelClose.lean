/-
  For every code the law FnTravelClose returns true: impl.TravelClose answers as the reference model does; a closed traverse has no gap and is its own closed one, if it has any, and what its steps were given are shares of the opposite of the gap for the steps' lengths. No condition: every list of bytes is taken.
-/
import Derived.Test.YtgncjpakclbegaaPka
import Derived.Test.YtgncjpakclbegaaHe
import Derived.Test.YtgncjpakclbegaaHh
import Derived.Test.YtgncjpakclbegaaHi
import Derived.Test.YtgncjpakclbegaaHj
import Derived.Test.YtgncjpakclbegaaCode
set_option linter.unusedSimpArgs false
set_option linter.unusedVariables false
namespace Go.Proofs.Ytgncjpakclbegaa.fnTravelClose
open Go.ChangeShapes Go.WideShapes Go.ChangeAt Go.RowKit Poly

/-- a point in a block -/
def At (W : World) (X : Nat) (z : P2) : Prop := X < W.heap.size ∧ W.cell? ⟨X, 0, none⟩ = some (.int .i64 z.1) ∧ W.cell? ⟨X, 1, none⟩ = some (.int .i64 z.2)
theorem At.below {W W' : World} {X : Nat} {z : P2} {b : Nat} (h : At W X z) (hx : X < b) (hb : Below b W W') : At W' X z :=
  ⟨Nat.lt_of_lt_of_le h.1 hb.size, (hb.cell (p := ⟨X, 0, none⟩) hx).trans h.2.1, (hb.cell (p := ⟨X, 1, none⟩) hx).trans h.2.2⟩
theorem At.new (W : World) (x y : Int) (T : TypeId) : At (W.alloc (.cells #[.int .i64 x, .int .i64 y] T)) W.heap.size (x, y) :=
  ⟨by simp, World.cell?_alloc_new _ _ _ 0, World.cell?_alloc_new _ _ _ 1⟩
/-- what a second closing leaves -/
def ClsIn (b : Bool) (W : World) (p : Option Addr) (m n : Nat) (M : List P2) : Prop := b = true → m = n ∧ Ints W p (Poly.fl M)
theorem dx_take {L : List P2} {k : Nat} (h : k < L.length) : (dxT L).take (k + 1) = (dxT L).take k ++ [(cy (clsT L) k).1 - (cy L k).1] := by
  rw [List.take_add_one]; unfold dxT; rw [List.getElem?_map, List.getElem?_range h]; rfl
theorem dy_take {L : List P2} {k : Nat} (h : k < L.length) : (dyT L).take (k + 1) = (dyT L).take k ++ [(cy (clsT L) k).2 - (cy L k).2] := by
  rw [List.take_add_one]; unfold dyT; rw [List.getElem?_map, List.getElem?_range h]; rfl
/-- a row of numbers in a block that lies behind a bound -/
def One (b : Nat) (W : World) (k g d : Nat) (xs : List Int) : Prop := b ≤ g ∧ g < W.heap.size ∧ Own W g 3 1 k d xs
/-- what an append to one row leaves -/
def Ap (base wr W : World) (k a e f : Nat) (ys : List Int) : Prop := One base.heap.size W (k + 1) e f ys ∧ (∀ m h g zs, One base.heap.size wr m h g zs → h ≠ a → One base.heap.size W m h g zs ∧ h ≠ e) ∧ Below base.heap.size base W
theorem ap_of {base wr W : World} {k a d e f : Nat} {xs ys : List Int} {o : Obj} (h : One base.heap.size wr k a d xs) (hb : Below base.heap.size base wr) (ho : Own W e 3 1 (k + 1) f ys) (hg : ((wr.alloc o).drew).grownBy W (some a)) (hl : e = a ∨ e = (wr.alloc o).drew.heap.size) : Ap base wr W k a e f ys := by
  have hbs := hb.size
  have ha := h.1
  have ha2 := h.2.1
  have hgs := hg.size
  simp at hgs
  refine ⟨⟨?_, ho.lt, ho⟩, fun m h' g zs h1 hne => ⟨⟨h1.1, ?_, (own_drew (h1.2.2.alloc o)).grown hg hne⟩, ?_⟩, below_gr (below_dr (hb.alloc hbs o)) hg ha (by simp; omega)⟩
  · rcases hl with e' | e'
    · omega
    · simp at e'; omega
  · have := h1.2.1; omega
  · have := h1.2.1
    rcases hl with e' | e'
    · omega
    · simp at e'; omega
theorem ways_ap {base wr : World} {k a : Nat} {ys : List Int} {G : Prop} {P : Nat → Nat → World → Prop} (h1 : (∀ e f W, Ap base wr W k a e f ys → P e f W) → G) (h2 : ∀ e f W, Ap base wr W k a e f ys → P e f W) : G := h1 h2

set_option maxHeartbeats 16000000 in
set_option maxRecDepth 100000 in
theorem walk (len cap : Nat) (p : Option Addr) (w : World) (hl : len ≤ 1048576) (h : Hid (Code' w (.slice p len cap))) :
    Calls Try.prog 9 #[.slice p len cap] w fun e w' => e = .returned (.bool true) ∧ Below w.heap.size w w' := by
  have hl' : ¬ (1048576 : Int) < (len : Int) := by omega
  go_enter Try.func9, Try.ntmps9
  go_upto_region 4 with (go_at_call 44; (with_reducible refine (drawTravelClose_is _ _ h).mono ?_); rintro e wd ⟨L, q, c, rfl, hc, h12, hI, hne, hb_wd⟩; have hs_wd := hb_wd.size)
  clear h hne
  obtain ⟨n, hn⟩ : ∃ n, L.length = n := ⟨_, rfl⟩
  rw [hn] at hc h12 ⊢
  have H := Lib.hid (And.intro hI (And.intro hn hb_wd))
  cases hg : clsOk L
  · have c1 := fun w h => Lib.hid (iTravelClose_no (p := q) (n := n) (c := c) (L := L) (w := w) h hn hg)
    have c2 := fun w h => Lib.hid (sTravelClose_no (p := q) (n := n) (c := c) (L := L) (w := w) h hn (by omega) hg)
    clear hI hn hg
    go_wp2_with (first | (go_at_call 45; (with_reducible refine ((c1 _ ?_).out).mono ?_); (focus ((exact H.out.1); done)); rintro e wi ⟨rfl, hb_wi⟩; have hs_wi := hb_wi.size; (try simp at hs_wi)) | (go_at_call 46; (with_reducible refine ((c2 _ ?_).out).mono ?_); (focus ((exact H.out.1.below hb_wi); done)); rintro e ws ⟨g2, m2, d2, rfl, rfl, hb_ws⟩; have hs_ws := hb_ws.size; (try simp at hs_ws)) | (go_at_call 39; (with_reducible refine (samePts_nil _ _ _ _ _).mono ?_); rintro e wz ⟨rfl, hb_wz⟩; have hs_wz := hb_wz.size; (try simp at hs_wz)))
    go_ret
    exact ⟨rfl, (by repeat (first | assumption | exact Below.refl _ _ | (refine below_chain ?_ (by assumption) (by first | omega | (simp <;> omega) | simp)) | (refine Below.alloc ?_ (by first | omega | (simp <;> omega) | simp) _) | (apply below_drewN) | (apply below_drew) | (refine Below.setCell ?_ (by first | omega | (simp <;> omega) | simp) _)))⟩
  · obtain ⟨ht, hlo, htc⟩ := clsOk_parts hg
    have hn1 := (tvV_len ht).1
    rw [hn] at hn1
    have hcl : (clsT L).length = n := by rw [clsT_len, hn]
    obtain ⟨B, o, rfl, hB, -, -⟩ := hI.pt (i := 0) (by omega)
    obtain ⟨gx, hgx⟩ : ∃ a, tot (xsT L) = a := ⟨_, rfl⟩
    obtain ⟨gy, hgy⟩ : ∃ a, tot (ysT L) = a := ⟨_, rfl⟩
    have hgp : gapT L = (gx, gy) := by unfold gapT; rw [hgx, hgy]
    have hgb := gapT_bd ht
    rw [hgp] at hgb
    simp only at hgb
    obtain ⟨b, hbb⟩ : ∃ b, clsOk (clsT L) = b := ⟨_, rfl⟩
    have c1 := fun w h => Lib.hid (iTravelClose_yes (p := some ⟨B, o, none⟩) (n := n) (c := c) (L := L) (w := w) h hn hg)
    have c2 := fun w h => Lib.hid (sTravelClose_yes (p := some ⟨B, o, none⟩) (n := n) (c := c) (L := L) (w := w) h hn hg)
    have c3 : ∀ p d w, Ints w p (Poly.fl (clsT L)) → Hid (Calls Try.prog 35 #[.slice p n d] w fun e w' => e = .returned (.tuple #[.agg #[.int .i64 0, .int .i64 0], .bool true]) ∧ Below w.heap.size w w') := fun p d w h => Lib.hid (iTravelGap_yes h hcl htc (gap_cls hlo))
    have c4 : ∀ w, Ints w (some ⟨B, o, none⟩) (Poly.fl L) → Hid (Calls Try.prog 35 #[.slice (some ⟨B, o, none⟩) n c] w fun e w' => e = .returned (.tuple #[.agg #[.int .i64 gx, .int .i64 gy], .bool true]) ∧ Below w.heap.size w w') := fun w h => Lib.hid (iTravelGap_yes h hn ht hgp)
    have c5 : ∀ p d w, Ints w p (Poly.fl (clsT L)) → Hid (Calls Try.prog 45 #[.slice p n d] w fun e w' => ∃ p3 m3 c3, e = .returned (.tuple #[.slice p3 m3 c3, .bool b]) ∧ ClsIn b w' p3 m3 n (clsT L) ∧ Below w.heap.size w w') := fun p d w h => by
      refine Lib.hid ?_
      cases b
      · refine (iTravelClose_no h hcl hbb).mono ?_
        rintro e w' ⟨rfl, hb⟩
        exact ⟨none, 0, 0, rfl, fun h => (by cases h), hb⟩
      · refine (iTravelClose_yes h hcl hbb).mono ?_
        rintro e w' ⟨g, rfl, -, ho, hb'⟩
        rw [cls_cls hlo (clsOk_parts hbb).2.1] at ho
        exact ⟨_, _, _, rfl, fun _ => ⟨rfl, ho.pts⟩, hb'⟩
    have hk1 : okS (lensT L) (-gx) (dxT L) = true := by rw [dx_shr, hgx]; exact shr_ok (by rw [← hgx]; exact ris_xS ht hlo)
    have hk2 : okS (lensT L) (-gy) (dyT L) = true := by rw [dy_shr, hgy]; exact shr_ok (by rw [← hgy]; exact ris_yS ht hlo)
    have hls : (lensT L).length = n ∧ (dxT L).length = n ∧ (dyT L).length = n := ⟨by rw [lensT_len, hn], by simp [dxT, hn], by simp [dyT, hn]⟩
    have c6 := fun p d q f w h h' => Lib.hid (iShareOk n d n f p q (lensT L) (dxT L) (-gx) true w h h' hls.1 hls.2.1 (by omega) (by omega) hk1)
    have c7 := fun p d q f w h h' => Lib.hid (iShareOk n d n f p q (lensT L) (dyT L) (-gy) true w h h' hls.1 hls.2.2 (by omega) (by omega) hk2)
    have HL := Lib.hid (And.intro hcl (And.intro hls (And.intro ht htc)))
    clear hI hn hg ht hlo htc hcl hgx hgy hgp hbb hk1 hk2 hls
    go_upto_region 8 with (first | (go_at_call 45; (with_reducible refine ((c1 _ ?_).out).mono ?_); (focus ((exact H.out.1); done)); rintro e wi ⟨g1, rfl, hg1, ho1, hb_wi⟩; have hs_wi := hb_wi.size; (try simp at hs_wi)) | (go_at_call 46; (with_reducible refine ((c2 _ ?_).out).mono ?_); (focus ((exact H.out.1.below hb_wi); done)); rintro e ws ⟨g2, d2, rfl, hg2, ho2, hb_ws⟩; have hs_ws := hb_ws.size; (try simp at hs_ws)) | (go_at_call 39; (with_reducible refine (samePts _ _ n _ _ (clsT L) _ ?_ ?_ HL.out.1 (by omega)).mono ?_); (focus ((exact (ho1.below hb_ws).pts); done)); (focus ((exact ho2.pts); done)); rintro e wz ⟨rfl, hb_wz⟩; have hs_wz := hb_wz.size; (try simp at hs_wz)))
    have hiw : Below wi.heap.size wi wz := (by repeat (first | assumption | exact Below.refl _ _ | (refine below_chain ?_ (by assumption) (by first | omega | (simp <;> omega) | simp)) | (refine Below.alloc ?_ (by first | omega | (simp <;> omega) | simp) _) | (apply below_drewN) | (apply below_drew) | (refine Below.setCell ?_ (by first | omega | (simp <;> omega) | simp) _)))
    have hdz : Below wd.heap.size wd wz := hb_wi.trans (hiw.mono hs_wi)
    have HA : Hid (Ints wz (some ⟨B, o, none⟩) (Poly.fl L) ∧ Own wz g1 31 2 n n (Poly.fl (clsT L)) ∧ Below w.heap.size w wz) := Lib.hid ⟨H.out.1.below hdz, ho1.below hiw, H.out.2.2.trans (hdz.mono hs_wd)⟩
    have hHn := H.out.2.1
    have hBz : B < wz.heap.size := Nat.lt_of_lt_of_le hB hdz.size
    have hgz := HA.out.2.1.lt
    have hwz := HA.out.2.2.size
    clear ho1 ho2 hb_wi hb_ws hb_wz hs_wi hs_ws hs_wz hg1 hg2 c1 c2 hiw hdz hb_wd hs_wd H hB
    go_upto_region 9 with (go_at_call 35; (with_reducible refine ((c3 _ _ _ ?_).out).mono ?_); (focus ((exact HA.out.2.1.pts); done)); rintro e w1 ⟨rfl, hb_w1⟩; have hs_w1 := hb_w1.size; (try simp at hs_w1))
    have hA1 := At.new w1 0 0 31
    obtain ⟨X, hX⟩ : ∃ X, X = w1.heap.size := ⟨_, rfl⟩
    rw [← hX] at hA1 ⊢
    refine gen_world (fun W => At W X (0, 0) ∧ Below wz.heap.size wz W) ⟨hA1, hb_w1.alloc hs_w1 _⟩ (fun wp hp => ?_)
    have HP := Lib.hid hp
    have hXp := hp.1.1
    have hzp := hp.2.size
    clear hp hA1 hX hb_w1 hs_w1 c3
    go_upto_region 10 with (go_at_call 35; (with_reducible refine ((c4 _ ?_).out).mono ?_); (focus ((exact HA.out.1.below HP.out.2); done)); rintro e w2 ⟨rfl, hb_w2⟩; have hs_w2 := hb_w2.size; (try simp at hs_w2))
    have hA1 := At.new w2 gx gy 31
    obtain ⟨Y, hY⟩ : ∃ Y, Y = w2.heap.size := ⟨_, rfl⟩
    rw [← hY] at hA1 ⊢
    refine gen_world (fun W => At W Y (gx, gy) ∧ Below wp.heap.size wp W) ⟨hA1, hb_w2.alloc hs_w2 _⟩ (fun wq hp => ?_)
    have HQ := Lib.hid hp
    have hYq := hp.1.1
    have hpq := hp.2.size
    clear hp hA1 hY hb_w2 hs_w2 c4
    go_upto_region 11 with (go_at_call 45; (with_reducible refine ((c5 _ _ _ ?_).out).mono ?_); (focus ((exact ((HA.out.2.1.below HP.out.2).below HQ.out.2).pts); done)); rintro e wk ⟨p3, m3, d3, rfl, hcin, hb_wk⟩; have hs_wk := hb_wk.size; (try simp at hs_wk))
    have hzq : Below wz.heap.size wz wq := HP.out.2.trans (HQ.out.2.mono hzp)
    have hzk : Below wz.heap.size wz wk := hzq.trans (hb_wk.mono (Nat.le_trans hzp hpq))
    have HK : Hid (At wk X (0, 0) ∧ At wk Y (gx, gy) ∧ Ints wk (some ⟨B, o, none⟩) (Poly.fl L) ∧ Own wk g1 31 2 n n (Poly.fl (clsT L)) ∧ ClsIn b wk p3 m3 n (clsT L) ∧ Below w.heap.size w wk) := Lib.hid ⟨(HP.out.1.below hXp HQ.out.2).below (Nat.lt_of_lt_of_le hXp hpq) hb_wk, HQ.out.1.below hYq hb_wk, HA.out.1.below hzk, HA.out.2.1.below hzk, hcin, HA.out.2.2.trans (hzk.mono hwz)⟩
    have hwk := HK.out.2.2.2.2.2.size
    have hXk : X < wk.heap.size := by omega
    have hYk : Y < wk.heap.size := by omega
    have hBk : B < wk.heap.size := by omega
    have hgk : g1 < wk.heap.size := by omega
    clear hcin hb_wk hs_wk hzq hzk HA HP HQ hXp hYq hzp hpq hBz hgz hwz c5
    have H1 : Hid (Own (((wk.alloc (.cells #[] 3)).alloc (.cells #[] 3)).alloc (.cells #[] 3)) wk.heap.size 3 1 0 0 []) := Lib.hid (((Own.empty wk _ 1).alloc _).alloc _)
    have H2 : Hid (Own (((wk.alloc (.cells #[] 3)).alloc (.cells #[] 3)).alloc (.cells #[] 3)) (wk.heap.size + 1) 3 1 0 0 []) := Lib.hid (by have := (Own.empty (wk.alloc (.cells #[] 3)) 3 1).alloc (.cells #[] 3); rw [World.size_alloc] at this; exact this)
    have H3 : Hid (Own (((wk.alloc (.cells #[] 3)).alloc (.cells #[] 3)).alloc (.cells #[] 3)) (wk.heap.size + 1 + 1) 3 1 0 0 []) := Lib.hid (by have := Own.empty ((wk.alloc (.cells #[] 3)).alloc (.cells #[] 3)) 3 1; rw [World.size_alloc, World.size_alloc] at this; exact this)
    go_wp2_with fail
    go_loopw [14, 15, 16, 17] (fun l1 l2 l3 i wr => ∃ k a1 d1 a2 d2 a3 d3 : Nat, k ≤ n ∧ i = .int .i64 k ∧ l1 = .slice (some ⟨a1, 0, none⟩) k d1 ∧ l2 = .slice (some ⟨a2, 0, none⟩) k d2 ∧ l3 = .slice (some ⟨a3, 0, none⟩) k d3 ∧ One wk.heap.size wr k a1 d1 ((lensT L).take k) ∧ One wk.heap.size wr k a2 d2 ((dxT L).take k) ∧ One wk.heap.size wr k a3 d3 ((dyT L).take k) ∧ (a1 ≠ a2 ∧ a1 ≠ a3 ∧ a2 ≠ a3) ∧ Below wk.heap.size wk wr) (fun _ _ _ i _ => n - (intOf i).toNat)
    case atStart =>
      refine ⟨0, _, 0, _, 0, _, 0, Nat.zero_le _, rfl, rfl, rfl, rfl, ⟨?_, ?_, H1.out⟩, ⟨?_, ?_, H2.out⟩, ⟨?_, ?_, H3.out⟩, ⟨?_, ?_, ?_⟩, (by repeat (first | assumption | exact Below.refl _ _ | (refine below_chain ?_ (by assumption) (by first | omega | (simp <;> omega) | simp)) | (refine Below.alloc ?_ (by first | omega | (simp <;> omega) | simp) _) | (apply below_drewN) | (apply below_drew) | (refine Below.setCell ?_ (by first | omega | (simp <;> omega) | simp) _)))⟩
      all_goals first | omega | (simp <;> omega)
    case round =>
      clear H1 H2 H3
      obtain ⟨k, a1, d1, a2, d2, a3, d3, hk, rfl, rfl, rfl, rfl, ho1, ho2, ho3, hne, hb⟩ := hrel
      have hbs := hb.size
      by_cases hlt : k < n
      · have hlt' : (k : Int) < (n : Int) := by omega
        have hk0 : (0 : Int) ≤ (k : Int) := by omega
        have hkL : k < L.length := by omega
        obtain ⟨B0, o0, e0, hB0, c0', c1'⟩ := HK.out.2.2.1.pt (i := k) hkL
        simp only [Option.some.injEq, Addr.mk.injEq] at e0
        obtain ⟨rfl, rfl, -⟩ := e0
        have hkC : k < (clsT L).length := by rw [HL.out.1]; exact hlt
        have f0' := HK.out.2.2.2.1.cells (fl_at (cy_lt hkC)).1
        have f1' := HK.out.2.2.2.1.cells (fl_at (cy_lt hkC)).2
        have HT : Hid ((lensT L).take (k + 1) = (lensT L).take k ++ [absP (cy L k)] ∧ (dxT L).take (k + 1) = (dxT L).take k ++ [(cy (clsT L) k).1 - (cy L k).1] ∧ (dyT L).take (k + 1) = (dyT L).take k ++ [(cy (clsT L) k).2 - (cy L k).2]) := Lib.hid ⟨take_mapS hkL, dx_take hkL, dy_take hkL⟩
        obtain ⟨b1, b2⟩ := stP_bd (tvV_at HL.out.2.2.1 hkL)
        obtain ⟨b3, b4⟩ := stP_bd (tvV_at HL.out.2.2.2 hkC)
        obtain ⟨s, hs⟩ : ∃ s, cy L k = s := ⟨_, rfl⟩
        obtain ⟨u, hu⟩ : ∃ u, cy (clsT L) k = u := ⟨_, rfl⟩
        rw [hs] at c0' c1' HT b1 b2
        rw [hu] at f0' f1' HT b3 b4
        have HB := Lib.hid (And.intro c0' (And.intro c1' (And.intro f0' f1')))
        have x0 := (hb.cell (p := ⟨B, o + k * 2, none⟩) hBk).trans c0'
        have x1 := (hb.cell (p := ⟨B, o + k * 2 + 1, none⟩) hBk).trans c1'
        have HO := Lib.hid (And.intro ho1 (And.intro ho2 (And.intro ho3 (And.intro hne hb))))
        have hB1 : some B ≠ some a1 := by have := ho1.1; simp; omega
        have hBr : B < wr.heap.size := by omega
        have hk12 : k ≤ 12 := by omega
        clear c0' c1' f0' f1' ho1 ho2 ho3 hne hb hs hu hB0
        have HV : Hid (IntKind.i64.wrap ((if s.1 < IntKind.i64.wrap (-s.1) then IntKind.i64.wrap (-s.1) else s.1) + if s.2 < IntKind.i64.wrap (-s.2) then IntKind.i64.wrap (-s.2) else s.2) = absP s ∧ IntKind.i64.wrap (u.1 - s.1) = u.1 - s.1 ∧ IntKind.i64.wrap (u.2 - s.2) = u.2 - s.2) := Lib.hid ⟨by unfold absP; simp only [IntKind.wrap_i64]; split <;> split <;> omega, by rw [IntKind.wrap_i64]; omega, by rw [IntKind.wrap_i64]; omega⟩
        clear b1 b2 b3 b4
        go_upto_region 17 with fail
        apply ways_ap (base := wk) (wr := wr) (k := k) (a := a1) (ys := (lensT L).take (k + 1))
        · intro REST
          go_region_held3 (fun W => W.cell? ⟨B, o + k * 2, none⟩ = some (.int .i64 s.1) ∧ W.cell? ⟨B, o + k * 2 + 1, none⟩ = some (.int .i64 s.2)) (first | (go_keep; done) | (go_split_ands; refine ⟨?_, ?_⟩ <;> (rw [hg1.cell_far _ (by simp; omega) hB1]; assumption)))
            ((refine step_app _ (by rfl) _ _ _ (by rfl) 3 _ 1 8 Try.underlying46 info_int rfl (by decide) (by decide) a1 k d1 _ (by rfl) (own_drew (HO.out.1.2.2.alloc _)) ⟨wr.heap.size, 0, none⟩ 1 1 [_] (by rfl) rfl (one_cell_drew wr _ _) (by decide) (by omega) ?_; intro e1 f1 w1 hown hg1 hloc hlt1))
          all_goals exact REST e1 f1 w1 (ap_of HO.out.1 HO.out.2.2.2.2 (by rw [HT.out.1, ← HV.out.1]; exact hown) hg1 hloc)
        · intro e1 f1 v1 h1
          have A2 := h1.2.1 k a2 d2 _ HO.out.2.1 HO.out.2.2.2.1.1.symm
          have A3 := h1.2.1 k a3 d3 _ HO.out.2.2.1 HO.out.2.2.2.1.2.1.symm
          have hb1 := h1.2.2
          have x0 := (hb1.cell (p := ⟨B, o + k * 2, none⟩) hBk).trans HB.out.1
          have x1 := (hb1.cell (p := ⟨g1, k * 2, none⟩) hgk).trans HB.out.2.2.1
          have hB2 : some B ≠ some a2 := by have := A2.1.1; simp; omega
          have hG2 : some g1 ≠ some a2 := by have := A2.1.1; simp; omega
          have hbs1 := hb1.size
          have hBv : B < v1.heap.size := by omega
          have hGv : g1 < v1.heap.size := by omega
          have HA2 := Lib.hid (And.intro h1 (And.intro A2 A3))
          clear h1 A2 A3 hb1 hB1 hBr
          go_upto_region 18 with fail
          apply ways_ap (base := wk) (wr := v1) (k := k) (a := a2) (ys := (dxT L).take (k + 1))
          · intro REST
            go_region_held3 (fun W => W.cell? ⟨B, o + k * 2, none⟩ = some (.int .i64 s.1) ∧ W.cell? ⟨g1, k * 2, none⟩ = some (.int .i64 u.1)) (first | (go_keep; done) | (go_split_ands; refine ⟨?_, ?_⟩ <;> (first | (rw [hg2.cell_far _ (by simp; omega) hB2]; assumption) | (rw [hg2.cell_far _ (by simp; omega) hG2]; assumption))))
              ((refine step_app _ (by rfl) _ _ _ (by rfl) 3 _ 1 8 Try.underlying46 info_int rfl (by decide) (by decide) a2 k d2 _ (by rfl) (own_drew (HA2.out.2.1.1.2.2.alloc _)) ⟨v1.heap.size, 0, none⟩ 1 1 [_] (by rfl) rfl (one_cell_drew v1 _ _) (by decide) (by omega) ?_; intro e2 f2 w2 hown hg2 hloc hlt1))
            all_goals exact REST e2 f2 w2 (ap_of HA2.out.2.1.1 HA2.out.1.2.2 (by rw [HT.out.2.1, ← HV.out.2.1]; exact hown) hg2 hloc)
          · intro e2 f2 v2 h2
            have B1 := h2.2.1 _ _ _ _ HA2.out.1.1 HA2.out.2.1.2.symm
            have B3 := h2.2.1 _ _ _ _ HA2.out.2.2.1 HO.out.2.2.2.1.2.2.symm
            have hb2 := h2.2.2
            have x0 := (hb2.cell (p := ⟨B, o + k * 2 + 1, none⟩) hBk).trans HB.out.2.1
            have x1 := (hb2.cell (p := ⟨g1, k * 2 + 1, none⟩) hgk).trans HB.out.2.2.2
            have hB3 : some B ≠ some a3 := by have := B3.1.1; simp; omega
            have hG3 : some g1 ≠ some a3 := by have := B3.1.1; simp; omega
            have hbs2 := hb2.size
            have hBw : B < v2.heap.size := by omega
            have hGw : g1 < v2.heap.size := by omega
            have HB2 := Lib.hid (And.intro h2 (And.intro B1 B3))
            clear h2 B1 B3 hb2 hB2 hG2 hBv hGv
            go_upto_region 19 with fail
            apply ways_ap (base := wk) (wr := v2) (k := k) (a := a3) (ys := (dyT L).take (k + 1))
            · intro REST
              go_region_held3 (fun W => W.cell? ⟨B, o + k * 2 + 1, none⟩ = some (.int .i64 s.2) ∧ W.cell? ⟨g1, k * 2 + 1, none⟩ = some (.int .i64 u.2)) (first | (go_keep; done) | (go_split_ands; refine ⟨?_, ?_⟩ <;> (first | (rw [hg3.cell_far _ (by simp; omega) hB3]; assumption) | (rw [hg3.cell_far _ (by simp; omega) hG3]; assumption))))
                ((refine step_app _ (by rfl) _ _ _ (by rfl) 3 _ 1 8 Try.underlying46 info_int rfl (by decide) (by decide) a3 k d3 _ (by rfl) (own_drew (HB2.out.2.2.1.2.2.alloc _)) ⟨v2.heap.size, 0, none⟩ 1 1 [_] (by rfl) rfl (one_cell_drew v2 _ _) (by decide) (by omega) ?_; intro e3 f3 w3 hown hg3 hloc hlt1))
              all_goals exact REST e3 f3 w3 (ap_of HB2.out.2.2.1 HB2.out.1.2.2 (by rw [HT.out.2.2, ← HV.out.2.2]; exact hown) hg3 hloc)
            · intro e3 f3 v3 h3
              have C1 := h3.2.1 _ _ _ _ HB2.out.2.1.1 HA2.out.2.2.2.symm
              have C2 := h3.2.1 _ _ _ _ HB2.out.1.1 HB2.out.2.2.2.symm
              have HC := Lib.hid (And.intro h3 (And.intro C1 C2))
              clear h3 C1 C2 x0 x1 hB3 hG3 hBw hGw
              go_wp2_with fail
              exact ⟨⟨k + 1, e1, f1, e2, f2, e3, f3, by omega, by go_num, rfl, rfl, rfl, HC.out.2.1.1, HC.out.2.2.1, HC.out.1.1, ⟨HB2.out.2.1.2, HC.out.2.1.2, HC.out.2.2.2⟩, HC.out.1.2.2⟩, by (try simp [intOf]); (try omega)⟩
      · have e : k = n := by omega
        subst e
        rw [List.take_of_length_le (Nat.le_of_eq HL.out.2.1.1)] at ho1
        rw [List.take_of_length_le (Nat.le_of_eq HL.out.2.1.2.1)] at ho2
        rw [List.take_of_length_le (Nat.le_of_eq HL.out.2.1.2.2)] at ho3
        have hx := HK.out.1.below hXk hb
        have hy := HK.out.2.1.below hYk hb
        have x0 := hx.2.1
        have x1 := hx.2.2
        have y0 := hy.2.1
        have y1 := hy.2.2
        simp only at x0 x1 y0 y1
        have hYr := hy.1
        have O1 := ho1.2.2
        have O2 := ho2.2.2
        have O3 := ho3.2.2
        have HO := Lib.hid (And.intro O1 (And.intro O2 O3))
        have HB := Lib.hid (And.intro hb (HK.out.2.2.2.2.2.trans (hb.mono hwk)))
        have hcin := HK.out.2.2.2.2.1
        clear hx hy ho1 ho2 ho3 O1 O2 O3 hne hb
        cases b
        · clear hcin
          go_wp2_with (first | ((go_at_call 47; (with_reducible refine ((c6 _ _ _ _ _ ?_ ?_).out).mono ?_); (focus ((exact HO.out.1.ints); done)); (focus ((exact HO.out.2.1.ints); done)); rintro e wb ⟨rfl, hb_wb⟩; have hs_wb := hb_wb.size; (try simp at hs_wb)); have y0 := (hb_wb.cell (p := ⟨Y, 0, none⟩) hYr).trans y0; have y1 := (hb_wb.cell (p := ⟨Y, 1, none⟩) hYr).trans y1) | ((go_at_call 47; (with_reducible refine ((c7 _ _ _ _ _ ?_ ?_).out).mono ?_); (focus ((exact (HO.out.1.below hb_wb).ints); done)); (focus ((exact (HO.out.2.2.below hb_wb).ints); done)); rintro e wc ⟨rfl, hb_wc⟩; have hs_wc := hb_wc.size; (try simp at hs_wc))))
          go_ret
          exact ⟨rfl, HB.out.2.trans ((hb_wb.trans (hb_wc.mono hs_wb)).mono HB.out.2.size)⟩
        · obtain ⟨rfl, hi3⟩ := hcin rfl
          have H3 := Lib.hid hi3
          clear hcin hi3
          go_wp2_with (first
            | ((go_at_call 39; (with_reducible refine (samePts _ _ m3 _ _ (clsT L) _ ?_ ?_ HL.out.1 (by omega)).mono ?_); (focus ((exact H3.out.below HB.out.1); done)); (focus ((exact (HK.out.2.2.2.1.below HB.out.1).pts); done)); rintro e wa ⟨rfl, hb_wa⟩; have hs_wa := hb_wa.size; (try simp at hs_wa)); have y0 := (hb_wa.cell (p := ⟨Y, 0, none⟩) hYr).trans y0; have y1 := (hb_wa.cell (p := ⟨Y, 1, none⟩) hYr).trans y1; have hYr := Nat.lt_of_lt_of_le hYr hs_wa)
            | ((go_at_call 47; (with_reducible refine ((c6 _ _ _ _ _ ?_ ?_).out).mono ?_); (focus ((exact (HO.out.1.below hb_wa).ints); done)); (focus ((exact (HO.out.2.1.below hb_wa).ints); done)); rintro e wb ⟨rfl, hb_wb⟩; have hs_wb := hb_wb.size; (try simp at hs_wb)); have y0 := (hb_wb.cell (p := ⟨Y, 0, none⟩) hYr).trans y0; have y1 := (hb_wb.cell (p := ⟨Y, 1, none⟩) hYr).trans y1)
            | (go_at_call 47; (with_reducible refine ((c7 _ _ _ _ _ ?_ ?_).out).mono ?_); (focus ((exact ((HO.out.1.below hb_wa).below hb_wb).ints); done)); (focus ((exact ((HO.out.2.2.below hb_wa).below hb_wb).ints); done)); rintro e wc ⟨rfl, hb_wc⟩; have hs_wc := hb_wc.size; (try simp at hs_wc)))
          go_ret
          exact ⟨rfl, HB.out.2.trans ((hb_wa.trans ((hb_wb.trans (hb_wc.mono hs_wb)).mono hs_wa)).mono HB.out.2.size)⟩

set_option maxRecDepth 100000 in
theorem walk_long (len cap : Nat) (p : Option Addr) (w : World) (hl : 1048576 < len) :
    Calls Try.prog 9 #[.slice p len cap] w fun e w' => e = .returned (.bool true) ∧ Below w.heap.size w w' := by
  have hl' : (1048576 : Int) < (len : Int) := by omega
  go_enter Try.func9, Try.ntmps9
  go_wp2
  go_ret
  exact ⟨rfl, Below.refl _ _⟩

set_option maxRecDepth 100000 in
theorem lifted (os : Os) (started : os.Started) (H : Type) (enc : TypeId × Value → H) :
    ReturnsInHanded {} Try.checked os 9 .any (Rows.fnTravelCloseSpec.pre6 enc Try.prog Try.f9 Rows.fnTravelCloseRow.domain false) (Rows.fnTravelCloseSpec.post enc Try.prog Try.f9 false true false false) := by
  refine returnsInHanded_of_change (C := Try.checked) own started (by kernel_rfl) Try.func9
    (ChangeSpec.witness6 (enc := enc) (C := Try.checked) false ⟨#[], #[.slice none 0 0], []⟩ 8 (by kernel_rfl) (by kernel_rfl) (by kernel_rfl) (by kernel_rfl)) ?_
  intro W base args ds gs before hval0 hW hcnd _
  have hval : ∀ (j : Nat) t v, Try.f9.params[j]? = some t → args[j]? = some v → Value.okWide Try.prog W .any base t v := hval0
  have hW' := hW
  obtain ⟨p, q, hA0, hV, rfl, hfz, hnd⟩ := hW
  have hA : DataW.TrodAll enc Try.prog W 0 (fun _ => true) true Try.f9.params.toList args.toList ds p := hA0
  rw [Try.params9] at hA hval
  obtain ⟨v0, vs0, d0, ds0, p0, q0, hargs, rfl, rfl, h0, r0⟩ := trodAll_cons hA
  obtain ⟨rfl, rfl, rfl⟩ := trodAll_nil r0
  obtain rfl : args = #[v0] := by cases args; simp_all
  obtain ⟨rfl, rfl⟩ := trodVars_none hV
  obtain ⟨a0, len0, cap0, rfl⟩ := okWide_slice Try.underlying22 (hval 0 22 v0 rfl rfl)
  have k0 := h0
  have lt0 : ∀ x ∈ p0, x.block < W.heap.size := by obtain ⟨m, hm⟩ := k0; exact DataW.trod_lt m _ _ _ hm
  obtain ⟨z0, w0⟩ : ∃ zs, IsRow .u8 W a0 len0 cap0 zs := by
    obtain ⟨fuel, hf⟩ := h0
    rcases open_ints Try.underlying22 Try.underlying5 (by kernel_rfl) hf with ⟨hcs, _⟩ | ⟨x, l, c, zs, hcs, _, hl, hm, hz, _, hcell, hwz⟩
    · simp [Value.cells] at hcs
      obtain ⟨rfl, rfl, rfl⟩ := hcs
      exact ⟨[], .inl ⟨rfl, rfl, rfl, rfl⟩⟩
    · simp [Value.cells] at hcs
      obtain ⟨rfl, rfl, rfl⟩ := hcs
      exact ⟨zs, .inr ⟨_, rfl, hl, hm, by simpa using hz, hcell, hwz⟩⟩
  clear hA0 hval0
  have hw : Calls Try.prog 9 #[.slice a0 len0 cap0] W fun e w' => e = .returned (.bool true) ∧ Below W.heap.size W w' := by
    by_cases hl : len0 ≤ 1048576
    · exact walk len0 cap0 a0 W hl (Lib.hid (code_of_row w0 hl))
    · exact walk_long len0 cap0 a0 W (by omega)
  refine hw.mono fun e W' ⟨he, bel⟩ => ?_
  subst he
  exact ⟨_, rfl, _, _, _, [], _, [], hW', trodAll_mk1 (shut_bool Try.underlying4 _), (trodAll_cons_mk (Below.trod laidOut (by kernel_rfl) (of_decide_eq_true (by kernel_rfl)) k0 bel lt0) trodAll_mk0), rfl, bel.frame _, fun h => by cases h⟩

theorem over : Rows.fnTravelCloseRow.holds Try.pinned (OpenSpec.ofChange Rows.fnTravelCloseSpec) :=
  OpenClaim.holds_of_wide 9 Try.f9 rfl rfl rfl rfl rfl rfl rfl ⟨rfl, rfl, rfl, rfl, rfl⟩ rfl rfl rfl rfl rfl (by kernel_rfl) Try.func9 (by unfold joinedFacts; rw [seat_enter, seat_lift, seat_make]; kernel_rfl)
    (of_decide_eq_true (by kernel_rfl)) (by unfold Func.isWrapper; first | (rw [if_pos (by decide +kernel)]; kernel_rfl) | (rw [if_neg (by decide +kernel)]; exact ⟨rfl, rfl⟩))
    (fun os started H enc _ => lifted os started H enc)

theorem proved : Rows.FnTravelCloseSaid := over
end Go.Proofs.Ytgncjpakclbegaa.fnTravelClose

