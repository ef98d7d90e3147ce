/-
  The reference model of closed traverses.
-/
import Derived.Test.YtgncjpakclbegaaHg
namespace Go.Proofs.Ytgncjpakclbegaa
open Go.RowKit Poly
set_option linter.unusedVariables false

def ClsOut (b : Bool) (w w' : World) (g m cap n : Nat) (M : List P2) : Prop := (b = false → m = 0) ∧ (b = true → m = n ∧ w.heap.size ≤ g ∧ Own w' g 31 2 n cap (Poly.fl M)) ∧ Below w.heap.size w w'
theorem two_cellsDr (V : World) (x y : Int) (T : TypeId) : ∀ (j : Nat) (z : Int), [x, y][j]? = some z → (V.alloc (.cells #[.int .i64 x, .int .i64 y] T)).drew.cell? ((⟨V.heap.size, 0, none⟩ : Addr).add j) = some (.int .i64 z) := two_cellsS V _ x y T rfl
section
variable {p : Option Addr} {n c : Nat} {L : List P2} {w : World}
theorem sTravelClose_not (h : Ints w p (Poly.fl L)) (hn : L.length = n) (hl : n ≤ 4000000000000000000) (hb : tvV L = false) :
    Calls Try.prog 46 #[.slice p n c] w fun e w' => ∃ g, e = .returned (.tuple #[.slice (some ⟨g, 0, none⟩) 0 0, .bool false]) ∧ Below w.heap.size w w' := by
  have H := Lib.hid h
  have c1 := fun w h => Lib.hid (sTravelValid_is (p := p) (n := n) (c := c) (L := L) (w := w) h hn hl hb)
  clear h hn hb
  go_enter Try.func46, Try.ntmps46
  go_wp2_with ((go_at_call 49; (with_reducible refine ((c1 _ H.out).out).mono ?_); rintro e w1 ⟨rfl, hb_w1⟩; have hs_w1 := hb_w1.size; (try simp at hs_w1)))
  exact bodyPost_ret (v := .tuple #[.slice (some ⟨w1.heap.size, 0, none⟩) 0 0, .bool false]) (by simp [results, Try.results46, go_sem]) rfl ⟨w1.heap.size, rfl, (by repeat (first | assumption | exact Below.refl _ _ | (refine below_chain ?_ (by assumption) (by first | omega | (simp <;> omega) | simp)) | (refine Below.alloc ?_ (by first | omega | (simp <;> omega) | simp) _) | (apply below_drewN) | (apply below_drew) | (refine Below.setCell ?_ (by first | omega | (simp <;> omega) | simp) _)))⟩
theorem ris_xS {L : List P2} (ht : tvV L = true) (hl : lenOk (lensT L) = true) : amtOk (lensT L) (-tot (xsT L)) = true := by
  have := gapT_bd ht
  unfold gapT at this
  simp only at this
  exact amtOk_true.2 ⟨hl, by omega, by omega⟩
theorem ris_yS {L : List P2} (ht : tvV L = true) (hl : lenOk (lensT L) = true) : amtOk (lensT L) (-tot (ysT L)) = true := by
  have := gapT_bd ht
  unfold gapT at this
  simp only at this
  exact amtOk_true.2 ⟨hl, by omega, by omega⟩
theorem amt_of {ls : List Int} {a : Int} (h0 : -10000000 ≤ a) (h1 : a ≤ 10000000) : amtOk ls a = lenOk ls := by
  unfold amtOk; rw [decide_eq_true ⟨h0, h1⟩, Bool.and_true]
set_option maxRecDepth 100000 in
set_option maxHeartbeats 4000000 in
theorem sTravelClose_len (h : Ints w p (Poly.fl L)) (hn : L.length = n) (hb : tvV L = true) (hl : lenOk (lensT L) = false) :
    Calls Try.prog 46 #[.slice p n c] w fun e w' => ∃ g, e = .returned (.tuple #[.slice (some ⟨g, 0, none⟩) 0 0, .bool false]) ∧ Below w.heap.size w w' := by
  have hlen := tvV_len hb
  rw [hn] at hlen
  have H := Lib.hid h
  obtain ⟨v, hv⟩ : ∃ v, gapT L = v := ⟨_, rfl⟩
  have hgb := gapT_bd hb
  rw [hv] at hgb
  obtain ⟨v1, v2⟩ := v
  simp only at hgb
  obtain ⟨⟨b1, b2⟩, b3, b4⟩ := hgb
  have c1 := fun w h => Lib.hid (sTravelValid_is (p := p) (n := n) (c := c) (L := L) (w := w) h hn (by omega) hb)
  have c2 := fun w h => Lib.hid (sGap (p := p) (n := n) (c := c) (L := L) (w := w) h hn hb hv)
  have c3 := fun w h => Lib.hid (sLens (p := p) (n := n) (c := c) (L := L) (w := w) h hn hb)
  obtain ⟨a1, e1⟩ : ∃ a, a = IntKind.i64.wrap (-v1) := ⟨_, rfl⟩
  obtain ⟨a2, e2⟩ : ∃ a, a = IntKind.i64.wrap (-v2) := ⟨_, rfl⟩
  have f1 : a1 = -v1 := by rw [e1, IntKind.wrap_i64]; omega
  have f2 : a2 = -v2 := by rw [e2, IntKind.wrap_i64]; omega
  have c4 := fun c p w h => Lib.hid (sShareOf_no n c p (lensT L) a1 w h (by rw [lensT_len, hn]) (by omega) (by rw [amt_of (by omega) (by omega)]; exact hl))
  have c5 := fun c p w h => Lib.hid (sShareOf_no n c p (lensT L) a2 w h (by rw [lensT_len, hn]) (by omega) (by rw [amt_of (by omega) (by omega)]; exact hl))
  clear f1 f2
  subst e1 e2
  clear h hn hb hv hl
  go_enter Try.func46, Try.ntmps46
  go_upto_region 4 with (first
    | ((go_at_call 49; (with_reducible refine ((c1 _ H.out).out).mono ?_); rintro e w1 ⟨rfl, hb_w1⟩; have hs_w1 := hb_w1.size; (try simp at hs_w1)))
    | ((go_at_call 96; (with_reducible refine ((c2 _ (H.out.below hb_w1)).out).mono ?_); rintro e w2 ⟨rfl, hb_w2⟩; have hs_w2 := hb_w2.size; (try simp at hs_w2))))
  obtain ⟨Y, hY⟩ : ∃ Y, w2.heap.size = Y := ⟨_, rfl⟩
  obtain ⟨V, hV⟩ : ∃ V, w2.alloc (.cells #[.int .i64 v1, .int .i64 v2] 31) = V := ⟨_, rfl⟩
  have y0 : V.cell? ⟨Y, 0, none⟩ = some (.int .i64 v1) := by rw [← hV, ← hY]; simp [go_sem]
  have y1 : V.cell? ⟨Y, 1, none⟩ = some (.int .i64 v2) := by rw [← hV, ← hY]; simp [go_sem]
  have hbV : Below w.heap.size w V := by rw [← hV]; exact ((hb_w1.trans (hb_w2.mono hs_w1)).alloc (by omega) _)
  have hsV := hbV.size
  have lY : Y < V.heap.size := World.block_lt_of_cell? V _ y0
  have HV := Lib.hid (And.intro hbV (H.out.below hbV))
  rw [hV, hY]
  clear hV hY hb_w1 hb_w2 c1 c2 hs_w1 hs_w2 hbV
  go_region_held3 (fun W => W.cell? ⟨Y, 0, none⟩ = some (.int .i64 v1) ∧ W.cell? ⟨Y, 1, none⟩ = some (.int .i64 v2)) (((try dsimp only); (try go_split_ands); refine ⟨?_, ?_⟩ <;> (first | ((repeat (first | with_reducible assumption | (with_reducible refine cell_below_keep (by with_reducible assumption) ?_) | (with_reducible refine cell_gb_keep (by with_reducible assumption) (by omega) ?_) | (simp [go_sem]; done) | (with_reducible refine cell_alloc_keep _ ?_) | (with_reducible refine cell_drew_keep ?_) | (with_reducible refine cell_drewN_keep _ ?_) | (with_reducible refine cell_set_keep _ (by first | (simp; omega) | omega) ?_))); done) | (simp [*, go_sem]; done)))) (first
    | ((go_at_call 94; (with_reducible refine ((c3 _ (HV.out.2.below (by repeat (first | assumption | exact Below.refl _ _ | (refine below_chain ?_ (by assumption) (by first | omega | (simp <;> omega) | simp)) | (refine Below.alloc ?_ (by first | omega | (simp <;> omega) | simp) _) | (apply below_drewN) | (apply below_drew) | (refine Below.setCell ?_ (by first | omega | (simp <;> omega) | simp) _))))).out).mono ?_); rintro e w3 ⟨g3, d3, rfl, hg3, ho3, hb_w3⟩; have hs_w3 := hb_w3.size; (try simp at hs_w3)); have lY3 : Y < w3.heap.size := (by omega))
    | ((go_at_call 97; (with_reducible refine ((c4 _ _ _ ho3.ints).out).mono ?_); rintro e w4 ⟨⟨g4, rfl⟩, hb_w4⟩; have hs_w4 := hb_w4.size; (try simp at hs_w4)); have lY4 : Y < w4.heap.size := (by omega)))
  rename_i hh
  obtain ⟨z0, z1⟩ := hh
  have hb4 : Below V.heap.size V w4 := ((below_dr (Below.refl _ V)).trans hb_w3).trans (hb_w4.mono hs_w3)
  have HV4 := Lib.hid (And.intro (HV.out.1.trans (hb4.mono hsV)) (HV.out.2.below hb4))
  have hsV4 := HV4.out.1.size
  clear y0 y1 hb_w3 hb_w4 hb4 c4 lY3 lY ho3 HV
  go_upto_region 5 with fail
  go_region_held3 (fun W => W.cell? ⟨Y, 0, none⟩ = some (.int .i64 v1) ∧ W.cell? ⟨Y, 1, none⟩ = some (.int .i64 v2)) (((try dsimp only); (try go_split_ands); refine ⟨?_, ?_⟩ <;> (first | ((repeat (first | with_reducible assumption | (with_reducible refine cell_below_keep (by with_reducible assumption) ?_) | (with_reducible refine cell_gb_keep (by with_reducible assumption) (by omega) ?_) | (simp [go_sem]; done) | (with_reducible refine cell_alloc_keep _ ?_) | (with_reducible refine cell_drew_keep ?_) | (with_reducible refine cell_drewN_keep _ ?_) | (with_reducible refine cell_set_keep _ (by first | (simp; omega) | omega) ?_))); done) | (simp [*, go_sem]; done)))) (first
    | ((go_at_call 94; (with_reducible refine ((c3 _ (HV4.out.2.below (by repeat (first | assumption | exact Below.refl _ _ | (refine below_chain ?_ (by assumption) (by first | omega | (simp <;> omega) | simp)) | (refine Below.alloc ?_ (by first | omega | (simp <;> omega) | simp) _) | (apply below_drewN) | (apply below_drew) | (refine Below.setCell ?_ (by first | omega | (simp <;> omega) | simp) _))))).out).mono ?_); rintro e w5 ⟨g5, d5, rfl, hg5, ho5, hb_w5⟩; have hs_w5 := hb_w5.size; (try simp at hs_w5)); have lY5 : Y < w5.heap.size := (by omega))
    | ((go_at_call 97; (with_reducible refine ((c5 _ _ _ ho5.ints).out).mono ?_); rintro e w6 ⟨⟨g6, rfl⟩, hb_w6⟩; have hs_w6 := hb_w6.size; (try simp at hs_w6)); have lY6 : Y < w6.heap.size := (by omega)))
  have hb6 : Below w.heap.size w w6 := HV4.out.1.trans ((((below_dr (Below.refl _ w4)).trans hb_w5).trans (hb_w6.mono hs_w5)).mono hsV4)
  go_wp2_with fail
  exact bodyPost_ret (v := .tuple #[.slice (some ⟨w6.heap.size, 0, none⟩) 0 0, .bool false]) (by simp [results, Try.results46, go_sem]) rfl ⟨w6.heap.size, rfl, hb6.alloc hb6.size _⟩
set_option maxRecDepth 100000 in
set_option maxHeartbeats 8000000 in
theorem sTravelClose_in (b : Bool) (h : Ints w p (Poly.fl L)) (hn : L.length = n) (hb : tvV L = true) (hl : lenOk (lensT L) = true) (hc : tvV (clsT L) = b) :
    Calls Try.prog 46 #[.slice p n c] w fun e w' => ∃ g m cap, e = .returned (.tuple #[.slice (some ⟨g, 0, none⟩) m cap, .bool b]) ∧ ClsOut b w w' g m cap n (clsT L) := by
  have hlen := tvV_len hb
  rw [hn] at hlen
  have H := Lib.hid h
  have HN := Lib.hid (And.intro hn hb)
  have hlk := Lib.hid hl
  have c7 := fun q d w h => Lib.hid (sTravelValid_is (p := q) (n := n) (c := d) (L := clsT L) (w := w) (ok := b) h (by rw [clsT_len, hn]) (by omega) hc)
  obtain ⟨v, hv⟩ : ∃ v, gapT L = v := ⟨_, rfl⟩
  have hgb := gapT_bd hb
  rw [hv] at hgb
  obtain ⟨v1, v2⟩ := v
  simp only at hgb
  obtain ⟨⟨b1, b2⟩, b3, b4⟩ := hgb
  have c1 := fun w h => Lib.hid (sTravelValid_is (p := p) (n := n) (c := c) (L := L) (w := w) h hn (by omega) hb)
  have c2 := fun w h => Lib.hid (sGap (p := p) (n := n) (c := c) (L := L) (w := w) h hn hb hv)
  have c3 := fun w h => Lib.hid (sLens (p := p) (n := n) (c := c) (L := L) (w := w) h hn hb)
  obtain ⟨a1, e1⟩ : ∃ a, a = IntKind.i64.wrap (-v1) := ⟨_, rfl⟩
  obtain ⟨a2, e2⟩ : ∃ a, a = IntKind.i64.wrap (-v2) := ⟨_, rfl⟩
  have f1 : a1 = -v1 := by rw [e1, IntKind.wrap_i64]; omega
  have f2 : a2 = -v2 := by rw [e2, IntKind.wrap_i64]; omega
  have c4 := fun c p w h => Lib.hid (sShareOf_yes n c p (lensT L) a1 w h (by rw [lensT_len, hn]) (by rw [amt_of (by omega) (by omega)]; exact hl))
  have c5 := fun c p w h => Lib.hid (sShareOf_yes n c p (lensT L) a2 w h (by rw [lensT_len, hn]) (by rw [amt_of (by omega) (by omega)]; exact hl))
  have g1 : a1 = -tot (xsT L) := by rw [f1]; unfold gapT at hv; injection hv with h1 h2; rw [h1]
  have g2 : a2 = -tot (ysT L) := by rw [f2]; unfold gapT at hv; injection hv with h1 h2; rw [h2]
  have G := Lib.hid (And.intro (g1.symm.trans e1) (g2.symm.trans e2))
  clear f1 f2 g1 g2
  subst e1 e2
  clear h hn hb hv hl hc
  go_enter Try.func46, Try.ntmps46
  go_upto_region 4 with (first
    | ((go_at_call 49; (with_reducible refine ((c1 _ H.out).out).mono ?_); rintro e w1 ⟨rfl, hb_w1⟩; have hs_w1 := hb_w1.size; (try simp at hs_w1)))
    | ((go_at_call 96; (with_reducible refine ((c2 _ (H.out.below hb_w1)).out).mono ?_); rintro e w2 ⟨rfl, hb_w2⟩; have hs_w2 := hb_w2.size; (try simp at hs_w2))))
  obtain ⟨Y, hY⟩ : ∃ Y, w2.heap.size = Y := ⟨_, rfl⟩
  obtain ⟨V, hV⟩ : ∃ V, w2.alloc (.cells #[.int .i64 v1, .int .i64 v2] 31) = V := ⟨_, rfl⟩
  have y0 : V.cell? ⟨Y, 0, none⟩ = some (.int .i64 v1) := by rw [← hV, ← hY]; simp [go_sem]
  have y1 : V.cell? ⟨Y, 1, none⟩ = some (.int .i64 v2) := by rw [← hV, ← hY]; simp [go_sem]
  have hbV : Below w.heap.size w V := by rw [← hV]; exact ((hb_w1.trans (hb_w2.mono hs_w1)).alloc (by omega) _)
  have hsV := hbV.size
  have lY : Y < V.heap.size := World.block_lt_of_cell? V _ y0
  have HV := Lib.hid (And.intro hbV (H.out.below hbV))
  rw [hV, hY]
  clear hV hY hb_w1 hb_w2 c1 c2 hs_w1 hs_w2 hbV
  go_region_held3 (fun W => W.cell? ⟨Y, 0, none⟩ = some (.int .i64 v1) ∧ W.cell? ⟨Y, 1, none⟩ = some (.int .i64 v2)) (((try dsimp only); (try go_split_ands); refine ⟨?_, ?_⟩ <;> (first | ((repeat (first | with_reducible assumption | (with_reducible refine cell_below_keep (by with_reducible assumption) ?_) | (with_reducible refine cell_gb_keep (by with_reducible assumption) (by omega) ?_) | (simp [go_sem]; done) | (with_reducible refine cell_alloc_keep _ ?_) | (with_reducible refine cell_drew_keep ?_) | (with_reducible refine cell_drewN_keep _ ?_) | (with_reducible refine cell_set_keep _ (by first | (simp; omega) | omega) ?_))); done) | (simp [*, go_sem]; done)))) (first
    | ((go_at_call 94; (with_reducible refine ((c3 _ (HV.out.2.below (by repeat (first | assumption | exact Below.refl _ _ | (refine below_chain ?_ (by assumption) (by first | omega | (simp <;> omega) | simp)) | (refine Below.alloc ?_ (by first | omega | (simp <;> omega) | simp) _) | (apply below_drewN) | (apply below_drew) | (refine Below.setCell ?_ (by first | omega | (simp <;> omega) | simp) _))))).out).mono ?_); rintro e w3 ⟨g3, d3, rfl, hg3, ho3, hb_w3⟩; have hs_w3 := hb_w3.size; (try simp at hs_w3)); have lY3 : Y < w3.heap.size := (by omega))
    | ((go_at_call 97; (with_reducible refine ((c4 _ _ _ ho3.ints).out).mono ?_); rintro e w4 ⟨gx, dx, rfl, hgx, hox, hb_w4⟩; have hs_w4 := hb_w4.size; (try simp at hs_w4)); have lY4 : Y < w4.heap.size := (by omega)))
  rename_i hh
  obtain ⟨z0, z1⟩ := hh
  have hb4 : Below V.heap.size V w4 := ((below_dr (Below.refl _ V)).trans hb_w3).trans (hb_w4.mono hs_w3)
  have HV4 := Lib.hid (And.intro (HV.out.1.trans (hb4.mono hsV)) (HV.out.2.below hb4))
  have hsV4 := HV4.out.1.size
  have HX := Lib.hid hox
  have hlx := hox.lt
  clear y0 y1 hb_w3 hb_w4 hb4 c4 lY3 lY ho3 HV hox
  go_upto_region 5 with fail
  go_region_held3 (fun W => W.cell? ⟨Y, 0, none⟩ = some (.int .i64 v1) ∧ W.cell? ⟨Y, 1, none⟩ = some (.int .i64 v2)) (((try dsimp only); (try go_split_ands); refine ⟨?_, ?_⟩ <;> (first | ((repeat (first | with_reducible assumption | (with_reducible refine cell_below_keep (by with_reducible assumption) ?_) | (with_reducible refine cell_gb_keep (by with_reducible assumption) (by omega) ?_) | (simp [go_sem]; done) | (with_reducible refine cell_alloc_keep _ ?_) | (with_reducible refine cell_drew_keep ?_) | (with_reducible refine cell_drewN_keep _ ?_) | (with_reducible refine cell_set_keep _ (by first | (simp; omega) | omega) ?_))); done) | (simp [*, go_sem]; done)))) (first
    | ((go_at_call 94; (with_reducible refine ((c3 _ (HV4.out.2.below (by repeat (first | assumption | exact Below.refl _ _ | (refine below_chain ?_ (by assumption) (by first | omega | (simp <;> omega) | simp)) | (refine Below.alloc ?_ (by first | omega | (simp <;> omega) | simp) _) | (apply below_drewN) | (apply below_drew) | (refine Below.setCell ?_ (by first | omega | (simp <;> omega) | simp) _))))).out).mono ?_); rintro e w5 ⟨g5, d5, rfl, hg5, ho5, hb_w5⟩; have hs_w5 := hb_w5.size; (try simp at hs_w5)); have lY5 : Y < w5.heap.size := (by omega))
    | ((go_at_call 97; (with_reducible refine ((c5 _ _ _ ho5.ints).out).mono ?_); rintro e w6 ⟨gy, dy, rfl, hgy, hoy, hb_w6⟩; have hs_w6 := hb_w6.size; (try simp at hs_w6)); have lY6 : Y < w6.heap.size := (by omega)))
  have hb46 : Below w4.heap.size w4 w6 := ((below_dr (Below.refl _ w4)).trans hb_w5).trans (hb_w6.mono hs_w5)
  have hb6 : Below w.heap.size w w6 := HV4.out.1.trans (hb46.mono hsV4)
  have hs6 := hb6.size
  have hly := hoy.lt
  have HO := Lib.hid (And.intro (HX.out.below hb46) (And.intro hoy hb6))
  have hlx6 : gx < w6.heap.size := (HX.out.below hb46).lt
  have H0 := Lib.hid (Own.empty w6 31 2)
  clear z0 z1 hb_w5 hb_w6 hb6 hb46 c3 c5 lY4 lY5 lY6 ho5 HV4 HX hoy
  go_wp2_with fail
  go_loopw [9, 10] (fun l i wr => ∃ k g cap : Nat, k ≤ n ∧ i = .int .i64 k ∧ l = .slice (some ⟨g, 0, none⟩) k cap ∧ w6.heap.size ≤ g ∧ Own wr g 31 2 k cap (Poly.fl ((clsT L).take k)) ∧ Below w6.heap.size w6 wr) (fun _ i _ => n - (intOf i).toNat)
  case atStart => exact ⟨0, w6.heap.size, 0, Nat.zero_le _, rfl, rfl, Nat.le_refl _, H0.out, (Below.refl _ _).alloc (Nat.le_refl _) _⟩
  case round =>
    clear H0
    obtain ⟨k, g, cap, hk, rfl, rfl, hg, ho, hb⟩ := hrel
    have hbs := hb.size
    by_cases hlt : k < n
    · have hlt' : (k : Int) < (n : Int) := by omega
      have hk0 : (0 : Int) ≤ (k : Int) := by omega
      have hkL : k < L.length := by rw [HN.out.1]; exact hlt
      obtain ⟨B, o, rfl, hB, q0', q1'⟩ := H.out.pt (i := k) hkL
      have hB6 : B < w6.heap.size := by omega
      have q0 := (hb.cell (p := ⟨B, o + k * 2, none⟩) hB6).trans ((HO.out.2.2.cell (p := ⟨B, o + k * 2, none⟩) hB).trans q0')
      have q1 := (hb.cell (p := ⟨B, o + k * 2 + 1, none⟩) hB6).trans ((HO.out.2.2.cell (p := ⟨B, o + k * 2 + 1, none⟩) hB).trans q1')
      have x0 := ((HO.out.1.below hb).cells (at_nth (l := shr (lensT L) (IntKind.i64.wrap (-v1))) (i := k) (by rw [shr_len, lensT_len, HN.out.1]; exact hlt)))
      have y0 := ((HO.out.2.1.below hb).cells (at_nth (l := shr (lensT L) (IntKind.i64.wrap (-v2))) (i := k) (by rw [shr_len, lensT_len, HN.out.1]; exact hlt)))
      obtain ⟨X, hX⟩ : ∃ X, nth (shr (lensT L) (IntKind.i64.wrap (-v1))) k = X := ⟨_, rfl⟩
      obtain ⟨Z, hZ⟩ : ∃ Z, nth (shr (lensT L) (IntKind.i64.wrap (-v2))) k = Z := ⟨_, rfl⟩
      rw [hX] at x0
      rw [hZ] at y0
      have hkl : k < (lensT L).length := by rw [lensT_len]; exact hkL
      have hcl : cy (clsT L) k = ((cy L k).1 + X, (cy L k).2 + Z) := by
        rw [cy_cls hkL, nth_rsh hkl, nth_rsh hkl, nth_xs hkL, nth_ys hkL, G.out.1, G.out.2, ← nth_shr hkl, ← nth_shr hkl, hX, hZ]
      have HT : Hid ((clsT L).take (k + 1) = (clsT L).take k ++ [((cy L k).1 + X, (cy L k).2 + Z)]) := Lib.hid (by rw [List.take_add_one, cy_lt (by rw [clsT_len]; exact hkL), hcl]; rfl)
      have hXb := sh_low (ls := lensT L) (a := IntKind.i64.wrap (-v1)) (by rw [← G.out.1]; exact (ris_xS HN.out.2 hlk.out)) hkl
      have hZb := sh_low (ls := lensT L) (a := IntKind.i64.wrap (-v2)) (by rw [← G.out.2]; exact (ris_yS HN.out.2 hlk.out)) hkl
      rw [← nth_shr hkl, hX] at hXb
      rw [← nth_shr hkl, hZ] at hZb
      obtain ⟨⟨b1, b2⟩, b3, b4⟩ := stP_bd (tvV_at HN.out.2 hkL)
      obtain ⟨s, hs⟩ : ∃ s, cy L k = s := ⟨_, rfl⟩
      rw [hs] at q0 q1 b1 b2 b3 b4 HT
      have HB := Lib.hid (And.intro ho hb)
      have hlg := ho.lt
      have hBg : some B ≠ some g := by simp; omega
      have hxg : some gx ≠ some g := by simp; omega
      have hyg : some gy ≠ some g := by simp; omega
      have m1 : B < wr.heap.size := by omega
      have m2 : gx < wr.heap.size := by omega
      have m3 : gy < wr.heap.size := by omega
      have HXb := Lib.hid (And.intro hXb hZb)
      clear q0' q1' hX hZ hkl hcl hs ho hb hXb hZb
      go_upto_region 12 with fail
      go_region_held3 (fun W => W.cell? ⟨B, o + k * 2, none⟩ = some (.int .i64 s.1) ∧ W.cell? ⟨B, o + k * 2 + 1, none⟩ = some (.int .i64 s.2) ∧ W.cell? ⟨gx, k, none⟩ = some (.int .i64 X) ∧ W.cell? ⟨gy, k, none⟩ = some (.int .i64 Z)) (first | (go_keep; done) | (go_split_ands; refine ⟨?_, ?_, ?_, ?_⟩ <;> (first | (rw [hg1.cell_far _ (by simp; omega) hBg]; assumption) | (rw [hg1.cell_far _ (by simp; omega) hxg]; assumption) | (rw [hg1.cell_far _ (by simp; omega) hyg]; assumption))))
        ((refine step_app _ (by rfl) _ _ _ (by rfl) 31 _ 2 16 Try.underlying23 info_point rfl (by decide) (by decide) g k cap _ (by rfl) (own_drew (HB.out.1.alloc _)) ⟨wr.heap.size, 0, none⟩ 1 1 [IntKind.i64.wrap (s.1 + X), IntKind.i64.wrap (s.2 + Z)] (by rfl) rfl (two_cellsDr wr _ _ _) (by decide) (by omega) ?_; intro g1 d1 w1 hown hg1 hloc hlt1))
      have hw1 : IntKind.i64.wrap (s.1 + X) = s.1 + X := by have := HXb.out; rw [IntKind.wrap_i64]; omega
      have hw2 : IntKind.i64.wrap (s.2 + Z) = s.2 + Z := by have := HXb.out; rw [IntKind.wrap_i64]; omega
      rw [hw1, hw2] at hown hg1 hloc
      clear hw1 hw2
      have hz1 := hg1.size
      have hN : w6.heap.size ≤ g1 ∧ Below w6.heap.size w6 w1 := by
        refine ⟨?_, below_gr (below_dr (HB.out.2.alloc hbs _)) hg1 hg (by simp; omega)⟩
        rcases hloc with e | e
        · omega
        · simp at e; omega
      have hown2 : Own w1 g1 31 2 (k + 1) d1 (Poly.fl ((clsT L).take (k + 1))) := by rw [HT.out, fl_append]; exact hown
      have HN2 := Lib.hid (And.intro hown2 hN)
      clear hown hown2 hg1 hloc hlt1 hN hz1 hBg hxg hyg
      go_wp2_with fail
      go_roundw
      case rel => exact ⟨k + 1, g1, d1, by omega, by go_num, rfl, HN2.out.2.1, HN2.out.1, HN2.out.2.2⟩
      case measure => simp [intOf]; omega
    · have e : k = n := by omega
      subst e
      rw [List.take_of_length_le (by rw [clsT_len, HN.out.1]; exact Nat.le_refl _)] at ho
      have HB := Lib.hid (And.intro ho (HO.out.2.2.trans (hb.mono hs6)))
      have hgw : w.heap.size ≤ g := by omega
      clear ho hb
      cases b
      · go_wp2_with ((go_at_call 49; (with_reducible refine ((c7 _ _ _ HB.out.1.pts).out).mono ?_); rintro e wv ⟨rfl, hb_wv⟩; have hs_wv := hb_wv.size; (try simp at hs_wv)))
        exact bodyPost_ret (v := .tuple #[.slice (some ⟨wv.heap.size, 0, none⟩) 0 0, .bool false]) (by simp [results, Try.results46, go_sem]) rfl ⟨wv.heap.size, 0, 0, rfl, fun _ => rfl, fun h => (by cases h), (HB.out.2.trans (hb_wv.mono (by omega))).alloc (by omega) _⟩
      · go_wp2_with ((go_at_call 49; (with_reducible refine ((c7 _ _ _ HB.out.1.pts).out).mono ?_); rintro e wv ⟨rfl, hb_wv⟩; have hs_wv := hb_wv.size; (try simp at hs_wv)))
        exact bodyPost_ret (v := .tuple #[.slice (some ⟨g, 0, none⟩) k cap, .bool true]) (by simp [results, Try.results46, go_sem]) rfl ⟨g, k, cap, rfl, fun h => (by cases h), fun _ => ⟨rfl, hgw, HB.out.1.below hb_wv⟩, HB.out.2.trans (hb_wv.mono (by omega))⟩
theorem sTravelClose_no (h : Ints w p (Poly.fl L)) (hn : L.length = n) (hln : n ≤ 4000000000000000000) (hc : clsOk L = false) :
    Calls Try.prog 46 #[.slice p n c] w fun e w' => ∃ g m cap, e = .returned (.tuple #[.slice (some ⟨g, 0, none⟩) m cap, .bool false]) ∧ m = 0 ∧ Below w.heap.size w w' := by
  unfold clsOk at hc
  cases ht : tvV L with
  | false =>
    refine (sTravelClose_not h hn hln ht).mono ?_
    rintro e w' ⟨g, rfl, hb⟩
    exact ⟨g, 0, 0, rfl, rfl, hb⟩
  | true =>
    cases hl : lenOk (lensT L) with
    | false =>
      refine (sTravelClose_len h hn ht hl).mono ?_
      rintro e w' ⟨g, rfl, hb⟩
      exact ⟨g, 0, 0, rfl, rfl, hb⟩
    | true =>
      rw [ht, hl] at hc
      simp only [Bool.true_and] at hc
      refine (sTravelClose_in false h hn ht hl hc).mono ?_
      rintro e w' ⟨g, m, cap, rfl, h1, -, h2⟩
      exact ⟨g, m, cap, rfl, h1 rfl, h2⟩
theorem sTravelClose_yes (h : Ints w p (Poly.fl L)) (hn : L.length = n) (hc : clsOk L = true) :
    Calls Try.prog 46 #[.slice p n c] w fun e w' => ∃ g cap, e = .returned (.tuple #[.slice (some ⟨g, 0, none⟩) n cap, .bool true]) ∧ w.heap.size ≤ g ∧ Own w' g 31 2 n cap (Poly.fl (clsT L)) ∧ Below w.heap.size w w' := by
  unfold clsOk at hc
  simp only [Bool.and_eq_true] at hc
  refine (sTravelClose_in true h hn hc.1.1 hc.1.2 hc.2).mono ?_
  rintro e w' ⟨g, m, cap, rfl, -, hb, h2⟩
  obtain ⟨rfl, h3, h4⟩ := hb rfl
  exact ⟨g, cap, rfl, h3, h4, h2⟩
end
end Go.Proofs.Ytgncjpakclbegaa
